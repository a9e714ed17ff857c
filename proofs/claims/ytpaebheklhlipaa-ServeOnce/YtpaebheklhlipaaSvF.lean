/- awake of the statements over package serve. -/
import Derived.Test.YtpaebheklhlipaaSvE
namespace Go.Proofs.Ytpaebheklhlipaa
open Go.RowKit
open Pl
namespace Sv

def awBs : List Bn := [⟨⟨#[1, 99, 0]⟩, ⟨#[1, 65, 0]⟩, 5, ⟨#[]⟩, 0⟩, ⟨⟨#[1, 99, 0]⟩, ⟨#[1, 98, 0]⟩, 5, ⟨#[]⟩, 0⟩]
def awHs : List ByteArray := [⟨#[1, 97, 0]⟩, ⟨#[1, 120, 0]⟩, ⟨#[1, 121, 1, 99, 0]⟩]
theorem awW : wantL awHs awBs = [⟨#[1, 120, 0]⟩] := by decide +kernel
theorem awA : adF (asL awBs) = [5] := by decide +kernel
theorem awOk : ∀ b ∈ awBs, BnOk b := by
  intro b hb
  simp [awBs] at hb
  rcases hb with rfl | rfl <;> exact ⟨by decide, by decide, by decide⟩
theorem awSz : ∀ d ∈ awHs, d.size ≤ 140737488351232 := by
  intro d hd
  simp [awHs] at hd
  rcases hd with rfl | rfl | rfl <;> decide

set_option maxRecDepth 20000 in
theorem awake_any (w : World) : Calls Try.prog 18 #[] w fun e w' => e = .returned (.bool true) ∧ Below w.heap.size w w' := by
  have hB : BnIn ((w.alloc (.cells (bC awBs).toArray 37)).alloc (.cells (tC awHs).toArray 9)) (.slice (some ⟨w.heap.size, 0, none⟩) 2 2) awBs :=
    ⟨Row.of_blk ((Blk.new w (bC awBs).toArray 37).alloc _) (by simp) 2 2, by decide, awOk⟩
  have hH : TxIn ((w.alloc (.cells (bC awBs).toArray 37)).alloc (.cells (tC awHs).toArray 9)) (.slice (some ⟨w.heap.size + 1, 0, none⟩) 3 3) awHs := by
    refine ⟨?_, by decide, awSz⟩
    have := Row.of_blk (Blk.new (w.alloc (.cells (bC awBs).toArray 37)) (tC awHs).toArray 9) (xs := tC awHs) (by simp) 3 3
    rw [show (w.alloc (.cells (bC awBs).toArray 37)).heap.size = w.heap.size + 1 from by simp] at this
    exact this
  have hb0 : Below w.heap.size w ((w.alloc (.cells (bC awBs).toArray 37)).alloc (.cells (tC awHs).toArray 9)) := lay (lay (Below.refl _ _) _) _
  have hw := wanting_any _ _ awHs awBs _ hH hB
  rw [awW] at hw
  have HB : Hid (BnIn ((w.alloc (.cells (bC awBs).toArray 37)).alloc (.cells (tC awHs).toArray 9)) (.slice (some ⟨w.heap.size, 0, none⟩) 2 2) awBs) := hB
  have HB0 : Hid (Below w.heap.size w ((w.alloc (.cells (bC awBs).toArray 37)).alloc (.cells (tC awHs).toArray 9))) := hb0
  clear hB hH hb0
  go_enter Try.func18, Try.ntmps18
  go_wp2_with (first
    | (go_at_call 9; go_must (refine hw.mono ?_); rintro e w1 ⟨v1, rfl, o1, b1⟩; have hb1 := next HB0.out b1; have ha := addrs_any _ awBs w1 (HB.out.below b1); rw [awA] at ha; have HO1 : Hid (Row w1 v1 1 (tC [⟨#[1, 120, 0]⟩])) := Row.of_own o1; clear o1 b1 hw)
    | (go_at_call 8; go_must (refine ha.mono ?_); rintro e w2 ⟨v2, rfl, o2, b2⟩; have hb2 := next hb1 b2; have HO2 : Hid (Row w2 v2 1 (iC [5])) := Row.of_own o2; have HV1 : Hid (Row w2 v1 1 (tC [⟨#[1, 120, 0]⟩])) := HO1.out.below b2; have hb3 := lay hb2 (.cells #[.int .i64 5] 3); have hsi := sameI_any v2 (.slice (some ⟨w2.heap.size, 0, none⟩) 1 1) [5] [5] (w2.alloc (.cells #[.int .i64 5] 3)) (HO2.out.below (lay (Below.refl _ _) _)) (Row.of_blk (Blk.new _ _ _) rfl 1 1) (by decide) (by decide) true rfl; clear o2 b2 ha hb1)
    | (go_at_call 10; go_must (refine hsi.mono ?_); rintro e w3 ⟨rfl, b3⟩; have hb4 := next hb3 b3; have hst := sameT_any v1 (.slice (some ⟨w3.heap.size, 0, none⟩) 1 1) [⟨#[1, 120, 0]⟩] [⟨#[1, 120, 0]⟩] (w3.alloc (.cells #[.string ⟨#[1, 120, 0]⟩] 9)) (HV1.out.below (lay (next (lay (Below.refl _ _) _) b3) _)) (Row.of_blk (Blk.new _ _ _) rfl 1 1) (by decide) (by decide) true (by decide); have hb5 := lay hb4 (.cells #[.string ⟨#[1, 120, 0]⟩] 9); clear hb4 hb3 hb2 b3 hsi)
    | (go_at_call 12; go_must (refine hst.mono ?_); rintro e w4 ⟨rfl, b4⟩; have hb6 := next hb5 b4; clear hb5 b4 hst)
    | (go_at_call 23; refine (num_any _ _).mono ?_; rintro e w' ⟨rfl, hw⟩; obtain rfl := hw.symm))
  go_ret
  exact ⟨rfl, hb6⟩

end Sv
end Go.Proofs.Ytpaebheklhlipaa
