/- StoreTtls holds: what is told lasts up to its end, tick by tick less; then it is not there. -/
import Derived.Test.YtcmhjlflgedcdaaXStW
import Derived.ProofKit
import Derived.OpenShut
import Derived.ShutString
namespace Go.Proofs.Ytcmhjlflgedcdaa.storeTtls
open Go.ChangeShapes Go.WideShapes Go.ChangeAt Go.RowKit
open Go.ChangeMaps (open_string shut_string)
open Pl

def dX : List ByteArray := [⟨#[120]⟩]
theorem sX : ∀ d ∈ dX, d.size ≤ 140737488351232 := fun d hd => by unfold dX at hd; simp at hd; subst hd; decide
set_option maxRecDepth 20000 in
theorem no (n : ByteArray) (a b : Int) (w : World) (hn : n.size ≤ maxLen) (h : isName n.data.toList = false) :
    Calls Try.prog 7 #[.string n, .int .i64 a, .int .i64 b] w fun e w' => e = .returned (.bool true) ∧ Below w.heap.size w w' := by
  go_enter Try.func7, Try.ntmps7
  go_wp2_with (first
    | (go_at_call 12; go_must (refine (awake_any _).mono ?_); rintro e w1 ⟨rfl, b1⟩)
    | (go_at_call 24; go_must (refine (refMay_as _ false _ hn h).mono ?_); rintro e w2 ⟨rfl, b2⟩))
  go_ret
  exact ⟨rfl, next b1 b2⟩

set_option maxRecDepth 20000 in
set_option maxHeartbeats 2000000 in
theorem gone (n : ByteArray) (until_ now U M : Int) (w : World) (h : isName n.data.toList = true) (hU : bits .and .i64 until_ 1023 = U) (U0 : 0 ≤ U) (U1 : U < 1024) (hM : bits .and .i64 now 2047 = M) (_M0 : 0 ≤ M) (_M1 : M < 2048) (hge : 10 + U ≤ M) :
    Calls Try.prog 7 #[.string n, .int .i64 until_, .int .i64 now] w fun e w' => e = .returned (.bool true) ∧ Below w.heap.size w w' := by
  have hn := max_name h
  have hm1 : mayE ⟨n, 7, 5, dX, 3, 10 + U⟩ 4 = true := may_yes h (by simp) (by simp) (by simp [dX]) (by simp) (by simp) (by simp only; omega) (by decide) (by decide)
  have HE1 : Hid (errP ⟨n, 7, 5, dX, 3, 10 + U⟩ 4 = 0) := err_yes hm1
  have HP1 : Hid (putP 2 [] ⟨n, 7, 5, dX, 3, 10 + U⟩ 4 = [⟨fdB n, 7, 5, dX, 3, 10 + U⟩]) := put_none hm1 (by decide)
  have HG1 : Hid (getP [⟨fdB n, 7, 5, dX, 3, 10 + U⟩] n 7 M = none) := get_late (fun x hx _ => by simp at hx; subst hx; simp only; omega)
  have HG2 : Hid (getP [⟨fdB n, 7, 5, dX, 3, 10 + U⟩] n 8 4 = none) := get_late (fun x hx hs => by simp at hx; subst hx; have := (sameK_iff.1 hs).2; simp at this)
  clear hm1
  have t1 : True := trivial
  go_enter Try.func7, Try.ntmps7
  go_wp2_with (first
    | (go_at_call 11; refine (num_any _ _).mono ?_; rintro e w' ⟨rfl, hw⟩; obtain rfl := hw.symm)
    | (go_at_call 12; go_must (refine (awake_any _).mono ?_); rintro e w1 ⟨rfl, b1⟩)
    | (go_at_call 24; go_must (refine (refMay_as _ true _ hn h).mono ?_); rintro e w2 ⟨rfl, b2⟩)
    | (go_at_call 9; go_must (refine (lw_new (next b1 b2) 2 (by decide) (by decide)).mono ?_); rintro e w3 ⟨gs, rfl, lw3⟩)
    | (go_at_call 25; go_must (refine (set_any _ _ _ _).mono ?_); rintro e w4 ⟨g4, rfl, k4, hg4, b4⟩; have hp1 := lw_put (lw3.below b4) n 7 5 3 (10 + U) 4 (.slice (some ⟨g4, 0, none⟩) 1 1) dX hn (row_d k4) (by decide) sX 0 HE1.out _ HP1.out; clear b4 k4 lw3)
    | (go_at_call 14; go_must (refine hp1.mono ?_); rintro e w5 ⟨rfl, mb5, L5, lw5, T5, ft5⟩; have hq1 := lw5.get_none n 7 M hn (by decide) HG1.out; clear hp1 T5 ft5)
    | (go_at_call 18; have _t := t1; go_must (refine hq1.mono ?_); rintro e w6 ⟨rfl, b6⟩; have b6' := lay b6 (.cells #[.string ⟨#[]⟩, .int .i64 0, .int .i64 0, .slice none 0 0] 34); have lw6 := lw5.below b6'; have kx6 := Blk.new w6 #[.string ⟨#[]⟩, .int .i64 0, .int .i64 0, .slice none 0 0] 34; have hq2 := lw6.get_none n 8 4 hn (by decide) HG2.out; clear t1 hq1)
    | (go_at_call 18; go_must (refine hq2.mono ?_); rintro e w7 ⟨rfl, b7⟩; have b7' := lay b7 (.cells #[.string ⟨#[]⟩, .int .i64 0, .int .i64 0, .slice none 0 0] 34); have lw7 := lw6.below b7'; have kx7 := kx6.below b7'; have x3 := kx7.cell 3; simp only [List.getElem?_toArray, List.getElem?_cons_succ, List.getElem?_cons_zero] at x3; clear hq2))
  go_ret
  exact ⟨rfl, lw7.bel⟩

set_option maxRecDepth 20000 in
set_option maxHeartbeats 2000000 in
theorem there (n : ByteArray) (until_ now U M : Int) (w : World) (h : isName n.data.toList = true) (hU : bits .and .i64 until_ 1023 = U) (U0 : 0 ≤ U) (U1 : U < 1024) (hM : bits .and .i64 now 2047 = M) (M0 : 0 ≤ M) (M1 : M < 2048) (hlt0 : M < 10 + U) :
    Calls Try.prog 7 #[.string n, .int .i64 until_, .int .i64 now] w fun e w' => e = .returned (.bool true) ∧ Below w.heap.size w w' := by
  have hn := max_name h
  have hm1 : mayE ⟨n, 7, 5, dX, 3, 10 + U⟩ 4 = true := may_yes h (by simp) (by simp) (by simp [dX]) (by simp) (by simp) (by simp only; omega) (by decide) (by decide)
  have HE1 : Hid (errP ⟨n, 7, 5, dX, 3, 10 + U⟩ 4 = 0) := err_yes hm1
  have HP1 : Hid (putP 2 [] ⟨n, 7, 5, dX, 3, 10 + U⟩ 4 = [⟨fdB n, 7, 5, dX, 3, 10 + U⟩]) := put_none hm1 (by decide)
  have HG1 : Hid (getP [⟨fdB n, 7, 5, dX, 3, 10 + U⟩] n 7 M = some ⟨fdB n, 7, 5, dX, 3, 10 + U⟩) := get_one (sameK_iff.2 ⟨rfl, rfl⟩) (by simp only; omega)
  have HT : Hid (wrap64 (10 + U - M) = 10 + U - M) := by unfold Hid wrap64; omega
  have hlt : decide (10 + U ≤ M) = false := by simp; omega
  have HG2 : Hid (getP [⟨fdB n, 7, 5, dX, 3, 10 + U⟩] n 8 4 = none) := get_late (fun x hx hs => by simp at hx; subst hx; have := (sameK_iff.1 hs).2; simp at this)
  clear hm1
  have t1 : True := trivial
  go_enter Try.func7, Try.ntmps7
  go_wp2_with (first
    | (go_at_call 11; refine (num_any _ _).mono ?_; rintro e w' ⟨rfl, hw⟩; obtain rfl := hw.symm)
    | (go_at_call 12; go_must (refine (awake_any _).mono ?_); rintro e w1 ⟨rfl, b1⟩)
    | (go_at_call 24; go_must (refine (refMay_as _ true _ hn h).mono ?_); rintro e w2 ⟨rfl, b2⟩)
    | (go_at_call 9; go_must (refine (lw_new (next b1 b2) 2 (by decide) (by decide)).mono ?_); rintro e w3 ⟨gs, rfl, lw3⟩)
    | (go_at_call 25; go_must (refine (set_any _ _ _ _).mono ?_); rintro e w4 ⟨g4, rfl, k4, hg4, b4⟩; have hp1 := lw_put (lw3.below b4) n 7 5 3 (10 + U) 4 (.slice (some ⟨g4, 0, none⟩) 1 1) dX hn (row_d k4) (by decide) sX 0 HE1.out _ HP1.out; clear b4 k4 lw3)
    | (go_at_call 14; go_must (refine hp1.mono ?_); rintro e w5 ⟨rfl, mb5, L5, lw5, T5, ft5⟩; have hq1 := lw5.get_some n 7 M hn (by decide) _ HG1.out; simp only [HT.out] at hq1; clear hp1 T5 ft5)
    | (go_at_call 18; have _t := t1; go_must (refine hq1.mono ?_); rintro e w6 ⟨g6, rfl, o6, hg6, b6⟩; have b6' := lay b6 (.cells #[.string (fdB n), .int .i64 7, .int .i64 (10 + U - M), .slice (some ⟨g6, 0, none⟩) 1 1] 34); have lw6 := lw5.below b6'; have kx6 := Blk.new w6 #[.string (fdB n), .int .i64 7, .int .i64 (10 + U - M), .slice (some ⟨g6, 0, none⟩) 1 1] 34; have O6 := o6.alloc (.cells #[.string (fdB n), .int .i64 7, .int .i64 (10 + U - M), .slice (some ⟨g6, 0, none⟩) 1 1] 34); have hq2 := lw6.get_none n 8 4 hn (by decide) HG2.out; clear t1 hq1)
    | (go_at_call 18; go_must (refine hq2.mono ?_); rintro e w7 ⟨rfl, b7⟩; have b7' := lay b7 (.cells #[.string ⟨#[]⟩, .int .i64 0, .int .i64 0, .slice none 0 0] 34); have lw7 := lw6.below b7'; have kx7 := kx6.below b7'; have O7 := own_past O6 b7'; clear hq2))
  obtain ⟨X, hX⟩ : ∃ X, X = w7.alloc (.cells #[.string ⟨#[]⟩, .int .i64 0, .int .i64 0, .slice none 0 0] 34) := ⟨_, rfl⟩
  rw [← hX]
  rw [← hX] at lw7 kx7 O7
  clear hX b7'
  have lwX := lw7.below (Below.refl _ _).drew
  have OX := own_past O7 (Below.refl _ _).drew
  refine wp_region_held_drew (S := fun u => Blk u w6.heap.size #[.string (fdB n), .int .i64 7, .int .i64 (10 + U - M), .slice (some ⟨g6, 0, none⟩) 1 1] 34) (by kernel_rfl) (kx7.drew ⟨1, rfl⟩) (fun hHeld => ?_)
  refine wpAnyH_take (i := 0) (v := .int .i64 0) rfl (by kernel_rfl) (by kernel_rfl) (by kernel_rfl) (fun _ _ _ h => h) (Or.inl ⟨by rfl, ?_⟩) hHeld ?_
  · intro u u1
    go_simp
  simp only [Act.put, List.getElem_toArray, List.getElem_cons_zero, List.setIfInBounds_toArray, List.set_cons_zero, List.set_cons_succ]
  refine wpAnyH_ready (rs := [1]) (by kernel_rfl) (by simp) ?_
  refine AllReadyH.cons rfl (fun K hK => ?_) AllReadyH.nil
  go_simp
  refine (num_any _ _).mono ?_
  rintro e w' ⟨rfl, hw⟩
  obtain rfl := hw.symm
  go_simp
  refine hK.out _ _ hHeld (fun hHeld => ?_)
  clear hK
  refine wpAnyH_take (i := 2) (v := .bool true) rfl (by kernel_rfl) (by kernel_rfl) (by kernel_rfl) (fun _ _ _ h => h) (Or.inl ⟨by rfl, ?_⟩) hHeld ?_
  · intro u u1
    go_simp
  simp only [Act.put, List.getElem_toArray, List.getElem_cons_succ, List.getElem_cons_zero, List.setIfInBounds_toArray, List.set_cons_zero, List.set_cons_succ]
  refine wpAnyH_take (i := 3) (v := .bool true) rfl (by kernel_rfl) (by kernel_rfl) (by kernel_rfl) (fun _ _ _ h => h) (Or.inl ⟨by rfl, ?_⟩) hHeld ?_
  · intro u u1
    go_simp
  simp only [Act.put, List.getElem_toArray, List.getElem_cons_succ, List.getElem_cons_zero, List.setIfInBounds_toArray, List.set_cons_zero, List.set_cons_succ]
  refine wpAnyH_take (i := 4) (v := .pointer (some ⟨w6.heap.size, 2, none⟩)) rfl (by kernel_rfl) (by kernel_rfl) (by kernel_rfl) (fun _ _ _ h => h) (Or.inl ⟨by rfl, ?_⟩) hHeld ?_
  · intro u u1
    go_simp
  simp only [Act.put, List.getElem_toArray, List.getElem_cons_succ, List.getElem_cons_zero, List.setIfInBounds_toArray, List.set_cons_zero, List.set_cons_succ]
  refine wpAnyH_take (i := 5) (v := .int .i64 (10 + U - M)) rfl (by kernel_rfl) (by kernel_rfl) (by kernel_rfl) (fun _ _ _ h => h) (Or.inl ⟨by rfl, ?_⟩) hHeld ?_
  · intro u u1
    have a2 := u1.cell 2; simp only [List.getElem?_toArray, List.getElem?_cons_succ, List.getElem?_cons_zero] at a2
    go_simp
  simp only [Act.put, List.getElem_toArray, List.getElem_cons_succ, List.getElem_cons_zero, List.setIfInBounds_toArray, List.set_cons_zero, List.set_cons_succ]
  refine wpAnyH_take (i := 6) (v := .int .i64 (10 + U)) rfl (by kernel_rfl) (by kernel_rfl) (by kernel_rfl) (fun _ _ _ h => h) (Or.inl ⟨by rfl, ?_⟩) hHeld ?_
  · intro u u1
    go_simp
  simp only [Act.put, List.getElem_toArray, List.getElem_cons_succ, List.getElem_cons_zero, List.setIfInBounds_toArray, List.set_cons_zero, List.set_cons_succ]
  refine wpAnyH_take (i := 7) (v := .int .i64 M) rfl (by kernel_rfl) (by kernel_rfl) (by kernel_rfl) (fun _ _ _ h => h) (Or.inl ⟨by rfl, ?_⟩) hHeld ?_
  · intro u u1
    go_simp
  simp only [Act.put, List.getElem_toArray, List.getElem_cons_succ, List.getElem_cons_zero, List.setIfInBounds_toArray, List.set_cons_zero, List.set_cons_succ]
  refine wpAnyH_take (i := 8) (v := .int .i64 (10 + U - M)) rfl (by kernel_rfl) (by kernel_rfl) (by kernel_rfl) (fun _ _ _ h => h) (Or.inl ⟨by rfl, ?_⟩) hHeld ?_
  · intro u u1
    go_simp
    first | exact HT.out | (simp [IntKind.wrap, IntKind.bits, IntKind.signed]; omega)
  simp only [Act.put, List.getElem_toArray, List.getElem_cons_succ, List.getElem_cons_zero, List.setIfInBounds_toArray, List.set_cons_zero, List.set_cons_succ]
  refine wpAnyH_take (i := 9) (v := .bool true) rfl (by kernel_rfl) (by kernel_rfl) (by kernel_rfl) (fun _ _ _ h => h) (Or.inl ⟨by rfl, ?_⟩) hHeld ?_
  · intro u u1
    go_simp
  simp only [Act.put, List.getElem_toArray, List.getElem_cons_succ, List.getElem_cons_zero, List.setIfInBounds_toArray, List.set_cons_zero, List.set_cons_succ]
  refine wpAnyH_take (i := 10) (v := .bool true) rfl (by kernel_rfl) (by kernel_rfl) (by kernel_rfl) (fun _ _ _ h => h) (Or.inl ⟨by rfl, ?_⟩) hHeld ?_
  · intro u u1
    go_simp
  simp only [Act.put, List.getElem_toArray, List.getElem_cons_succ, List.getElem_cons_zero, List.setIfInBounds_toArray, List.set_cons_zero, List.set_cons_succ]
  refine wpAnyH_take (i := 11) (v := .bool true) rfl (by kernel_rfl) (by kernel_rfl) (by kernel_rfl) (fun _ _ _ h => h) (Or.inl ⟨by rfl, ?_⟩) hHeld ?_
  · intro u u1
    go_simp
  simp only [Act.put, List.getElem_toArray, List.getElem_cons_succ, List.getElem_cons_zero, List.setIfInBounds_toArray, List.set_cons_zero, List.set_cons_succ]
  refine wpAnyH_take (i := 12) (v := .int .i64 3) rfl (by kernel_rfl) (by kernel_rfl) (by kernel_rfl) (fun _ _ _ h => h) (Or.inl ⟨by rfl, ?_⟩) hHeld ?_
  · intro u u1
    go_simp
  simp only [Act.put, List.getElem_toArray, List.getElem_cons_succ, List.getElem_cons_zero, List.setIfInBounds_toArray, List.set_cons_zero, List.set_cons_succ]
  refine wpAnyH_take (i := 13) (v := .bool true) rfl (by kernel_rfl) (by kernel_rfl) (by kernel_rfl) (fun _ _ _ h => h) (Or.inl ⟨by rfl, ?_⟩) hHeld ?_
  · intro u u1
    go_simp
  simp only [Act.put, List.getElem_toArray, List.getElem_cons_succ, List.getElem_cons_zero, List.setIfInBounds_toArray, List.set_cons_zero, List.set_cons_succ]
  refine wpAnyH_take (i := 14) (v := .bool true) rfl (by kernel_rfl) (by kernel_rfl) (by kernel_rfl) (fun _ _ _ h => h) (Or.inl ⟨by rfl, ?_⟩) hHeld ?_
  · intro u u1
    go_simp
  simp only [Act.put, List.getElem_toArray, List.getElem_cons_succ, List.getElem_cons_zero, List.setIfInBounds_toArray, List.set_cons_zero, List.set_cons_succ]
  refine wpAnyH_take (i := 15) (v := .bool true) rfl (by kernel_rfl) (by kernel_rfl) (by kernel_rfl) (fun _ _ _ h => h) (Or.inl ⟨by rfl, ?_⟩) hHeld ?_
  · intro u u1
    go_simp
  simp only [Act.put, List.getElem_toArray, List.getElem_cons_succ, List.getElem_cons_zero, List.setIfInBounds_toArray, List.set_cons_zero, List.set_cons_succ]
  refine wpAnyH_take (i := 16) (v := .pointer (some ⟨w6.heap.size, 0, none⟩)) rfl (by kernel_rfl) (by kernel_rfl) (by kernel_rfl) (fun _ _ _ h => h) (Or.inl ⟨by rfl, ?_⟩) hHeld ?_
  · intro u u1
    go_simp
  simp only [Act.put, List.getElem_toArray, List.getElem_cons_succ, List.getElem_cons_zero, List.setIfInBounds_toArray, List.set_cons_zero, List.set_cons_succ]
  refine wpAnyH_take (i := 17) (v := .string (fdB n)) rfl (by kernel_rfl) (by kernel_rfl) (by kernel_rfl) (fun _ _ _ h => h) (Or.inl ⟨by rfl, ?_⟩) hHeld ?_
  · intro u u1
    have a0 := u1.cell 0; simp only [List.getElem?_toArray, List.getElem?_cons_zero] at a0
    go_simp
  simp only [Act.put, List.getElem_toArray, List.getElem_cons_succ, List.getElem_cons_zero, List.setIfInBounds_toArray, List.set_cons_zero, List.set_cons_succ]
  refine wpAnyH_take (i := 18) (v := .string n) rfl (by kernel_rfl) (by kernel_rfl) (by kernel_rfl) (fun _ _ _ h => h) (Or.inl ⟨by rfl, ?_⟩) hHeld ?_
  · intro u u1
    go_simp
  simp only [Act.put, List.getElem_toArray, List.getElem_cons_succ, List.getElem_cons_zero, List.setIfInBounds_toArray, List.set_cons_zero, List.set_cons_succ]
  refine wpAnyH_ready (rs := [19]) (by kernel_rfl) (by simp) ?_
  refine AllReadyH.cons rfl (fun K hK => ?_) AllReadyH.nil
  go_simp
  refine (refFold_any n _ hn).mono ?_
  rintro e w8 ⟨rfl, b8⟩
  have lw8 := lwX.below b8
  have kx8 := hHeld.below b8
  have O8 := own_past OX b8
  clear hHeld lwX OX
  go_simp
  refine hK.out _ _ kx8 (fun hHeld => ?_)
  clear hK
  refine wpAnyH_take (i := 20) (v := .bool true) rfl (by kernel_rfl) (by kernel_rfl) (by kernel_rfl) (fun _ _ _ h => h) (Or.inl ⟨by rfl, ?_⟩) hHeld ?_
  · intro u u1
    go_simp
    rw [ByteArray.toList_eq]; exact fdB_list n
  simp only [Act.put, List.getElem_toArray, List.getElem_cons_succ, List.getElem_cons_zero, List.setIfInBounds_toArray, List.set_cons_zero, List.set_cons_succ]
  refine wpAnyH_take (i := 21) (v := .bool true) rfl (by kernel_rfl) (by kernel_rfl) (by kernel_rfl) (fun _ _ _ h => h) (Or.inl ⟨by rfl, ?_⟩) hHeld ?_
  · intro u u1
    go_simp
  simp only [Act.put, List.getElem_toArray, List.getElem_cons_succ, List.getElem_cons_zero, List.setIfInBounds_toArray, List.set_cons_zero, List.set_cons_succ]
  refine wpAnyH_take (i := 22) (v := .bool true) rfl (by kernel_rfl) (by kernel_rfl) (by kernel_rfl) (fun _ _ _ h => h) (Or.inl ⟨by rfl, ?_⟩) hHeld ?_
  · intro u u1
    go_simp
  simp only [Act.put, List.getElem_toArray, List.getElem_cons_succ, List.getElem_cons_zero, List.setIfInBounds_toArray, List.set_cons_zero, List.set_cons_succ]
  refine wpAnyH_take (i := 23) (v := .pointer (some ⟨w6.heap.size, 3, none⟩)) rfl (by kernel_rfl) (by kernel_rfl) (by kernel_rfl) (fun _ _ _ h => h) (Or.inl ⟨by rfl, ?_⟩) hHeld ?_
  · intro u u1
    go_simp
  simp only [Act.put, List.getElem_toArray, List.getElem_cons_succ, List.getElem_cons_zero, List.setIfInBounds_toArray, List.set_cons_zero, List.set_cons_succ]
  refine wpAnyH_take (i := 24) (v := .slice (some ⟨g6, 0, none⟩) 1 1) rfl (by kernel_rfl) (by kernel_rfl) (by kernel_rfl) (fun _ _ _ h => h) (Or.inl ⟨by rfl, ?_⟩) hHeld ?_
  · intro u u1
    have a3 := u1.cell 3; simp only [List.getElem?_toArray, List.getElem?_cons_succ, List.getElem?_cons_zero] at a3
    go_simp
  simp only [Act.put, List.getElem_toArray, List.getElem_cons_succ, List.getElem_cons_zero, List.setIfInBounds_toArray, List.set_cons_zero, List.set_cons_succ]
  refine wpAnyH_ready (rs := [25]) (by kernel_rfl) (by simp) ?_
  refine AllReadyH.cons rfl (fun K hK => ?_) AllReadyH.nil
  go_simp
  refine hK.out _ _ (hHeld.alloc _) (fun hHeld => ?_)
  clear hK
  refine wpAnyH_ready (rs := [26]) (by kernel_rfl) (by simp) ?_
  refine AllReadyH.cons rfl (fun K hK => ?_) AllReadyH.nil
  go_simp
  refine (sameT_any (.slice (some ⟨g6, 0, none⟩) 1 1) (.slice (some ⟨w8.heap.size, 0, none⟩) 1 1) dX dX _ (Row.of_own (O8.alloc _)) (row_d (Blk.new w8 #[.string ⟨#[120]⟩] 9)) (by decide) (by decide) true (by decide)).mono ?_
  rintro e w9 ⟨rfl, b9⟩
  have lw9 := lw8.below (next ((Below.refl _ _).alloc (Nat.le_refl _) (.cells #[.string ⟨#[120]⟩] 9)) b9)
  have kx9 := hHeld.below b9
  clear hHeld
  go_simp
  refine hK.out _ _ kx9 (fun hHeld => ?_)
  clear hK
  refine wpAnyH_take (i := 27) (v := .bool true) rfl (by kernel_rfl) (by kernel_rfl) (by kernel_rfl) (fun _ _ _ h => h) (Or.inl ⟨by rfl, ?_⟩) hHeld ?_
  · intro u u1
    go_simp
  simp only [Act.put, List.getElem_toArray, List.getElem_cons_succ, List.getElem_cons_zero, List.setIfInBounds_toArray, List.set_cons_zero, List.set_cons_succ]
  refine wpAnyH_take (i := 28) (v := .bool true) rfl (by kernel_rfl) (by kernel_rfl) (by kernel_rfl) (fun _ _ _ h => h) (Or.inl ⟨by rfl, ?_⟩) hHeld ?_
  · intro u u1
    go_simp
  simp only [Act.put, List.getElem_toArray, List.getElem_cons_succ, List.getElem_cons_zero, List.setIfInBounds_toArray, List.set_cons_zero, List.set_cons_succ]
  refine wpAnyH_done (by kernel_rfl) ?_ _
  go_wp2
  go_ret
  exact ⟨rfl, lw9.bel⟩

theorem walk (n : ByteArray) (a b : Int) (hn : n.size ≤ maxLen) (_ : (Lit.int .i64 a).wf = true) (_ : (Lit.int .i64 b).wf = true) (w : World) :
    Calls Try.prog 7 #[.string n, .int .i64 a, .int .i64 b] w fun e w' => e = .returned (.bool true) ∧ Below w.heap.size w w' := by
  cases h : isName n.data.toList with
  | false => exact no n a b w hn h
  | true =>
    have k1 := mask a 10 (by decide)
    have k2 := mask b 11 (by decide)
    have e1 : 0 ≤ a % ((2 ^ 10 : Nat) : Int) ∧ a % ((2 ^ 10 : Nat) : Int) < 1024 := by omega
    have e2 : 0 ≤ b % ((2 ^ 11 : Nat) : Int) ∧ b % ((2 ^ 11 : Nat) : Int) < 2048 := by omega
    by_cases hl : 10 + a % ((2 ^ 10 : Nat) : Int) ≤ b % ((2 ^ 11 : Nat) : Int)
    · exact gone n a b _ _ w h k1 e1.1 e1.2 k2 e2.1 e2.2 hl
    · exact there n a b _ _ w h k1 e1.1 e1.2 k2 e2.1 e2.2 (by omega)

theorem own : ownKnob Try.prog.godebug = none := by kernel_rfl

set_option maxRecDepth 100000 in
theorem lifted (os : Os) (started : os.Started) (H : Type) (enc : TypeId × Value → H) :
    ReturnsInHanded {} Try.checked os 7 .any (Rows.storeTtlsSpec.pre6 enc Try.prog Try.f7 Rows.storeTtlsRow.domain false) (Rows.storeTtlsSpec.post enc Try.prog Try.f7 false true false false) := by
  refine returnsInHanded_of_change (C := Try.checked) own started (by kernel_rfl) Try.func7
    (ChangeSpec.witness6 (enc := enc) (C := Try.checked) false ⟨#[], #[.string ByteArray.empty, .int .i64 0, .int .i64 0], []⟩ 8 (by kernel_rfl) (by kernel_rfl) (by kernel_rfl) (by kernel_rfl)) ?_
  intro W base args ds gs before hval0 hW _ _
  have hval : ∀ (j : Nat) t v, Try.f7.params[j]? = some t → args[j]? = some v → Value.okWide Try.prog W .any base t v := hval0
  have hW' := hW
  obtain ⟨p, q, hA0, hV, rfl, hfz, hnd⟩ := hW
  have hA : DataW.TrodAll enc Try.prog W 0 (fun _ => true) true Try.f7.params.toList args.toList ds p := hA0
  rw [Try.params7] at hA hval
  obtain ⟨v0, vs0, d0, ds0, p0, q0, hargs, rfl, rfl, h0, r0⟩ := trodAll_cons hA
  obtain ⟨v1, vs1, d1, ds1, p1, q1, rfl, rfl, rfl, h1, r1⟩ := trodAll_cons r0
  obtain ⟨v2, vs2, d2, ds2, p2, q2, rfl, rfl, rfl, h2, r2⟩ := trodAll_cons r1
  obtain ⟨rfl, rfl, rfl⟩ := trodAll_nil r2
  obtain rfl : args = #[v0, v1, v2] := by cases args; simp_all
  obtain ⟨rfl, rfl⟩ := trodVars_none hV
  obtain ⟨a0, rfl, rfl, rfl, w0⟩ := open_string Try.underlying9 (hval 0 9 v0 rfl rfl) h0
  obtain ⟨a1, rfl, rfl, rfl, w1⟩ := open_int Try.underlying3 (hval 1 3 v1 rfl rfl) h1
  obtain ⟨a2, rfl, rfl, rfl, w2⟩ := open_int Try.underlying3 (hval 2 3 v2 rfl rfl) h2
  clear hA0 hval0
  simp only [List.append_nil] at hW'
  refine (walk a0 a1 a2 w0 w1 w2 W ).mono fun e W' ⟨he, bel⟩ => ?_
  subst he
  exact ⟨_, rfl, _, _, _, [], [], [], hW', trodAll_mk1 (shut_bool Try.underlying4 _), (trodAll_cons_mk (shut_string Try.underlying9 w0) (trodAll_cons_mk (shut_int Try.underlying3 w1) (trodAll_cons_mk (shut_int Try.underlying3 w2) trodAll_mk0))), rfl, bel.frame _, fun h => by cases h⟩

/-- The statement. -/
theorem proved : Rows.StoreTtlsSaid :=
  OpenClaim.holds_of_wide 7 Try.f7 rfl rfl rfl rfl rfl rfl rfl ⟨rfl, rfl, rfl, rfl, rfl⟩ rfl rfl rfl rfl rfl (by kernel_rfl) Try.func7 (by kernel_rfl)
    (of_decide_eq_true (by kernel_rfl)) (by unfold Func.isWrapper; first | (rw [if_pos (by decide +kernel)]; kernel_rfl) | (rw [if_neg (by decide +kernel)]; exact ⟨rfl, rfl⟩))
    (fun os started H enc _ => lifted os started H enc)
#print axioms proved


end Go.Proofs.Ytcmhjlflgedcdaa.storeTtls
