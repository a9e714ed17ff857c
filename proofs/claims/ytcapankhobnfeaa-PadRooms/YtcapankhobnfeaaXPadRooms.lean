/- PadRooms holds: for every size and every block, the room that Room gives is less than the block, fills it, and is nothing for a size below 0 or a block below 1. -/
import Derived.Test.YtcapankhobnfeaaXP14
import Derived.ProofKit
import Derived.OpenShut
import Derived.SizedLaws
namespace Go.Proofs.Ytcapankhobnfeaa.padRooms
open Go.ChangeShapes Go.WideShapes Go.ChangeAt Go.RowKit

theorem walk (size block : Int) (_ : (Lit.int .i64 size).wf = true) (_ : (Lit.int .i64 block).wf = true) (w : World) :
    Calls Try.prog 5 #[.int .i64 size, .int .i64 block] w fun e w' => e = .returned (.bool true) ∧ Below w.heap.size w w' := by
  have m1 : bits .and .i64 size 1048575 = size % 1048576 := mask size 20 (by decide)
  have m2 : bits .and .i64 block 4095 = block % 4096 := mask block 12 (by decide)
  obtain ⟨k, hk⟩ : ∃ k, k = size % 1048576 := ⟨_, rfl⟩
  obtain ⟨c, hc⟩ : ∃ c, c = block % 4096 := ⟨_, rfl⟩
  have k1 : 0 ≤ k ∧ k < 1048576 := by omega
  have c1 : 0 ≤ c ∧ c < 4096 := by omega
  rw [← hk] at m1
  rw [← hc] at m2
  clear hk hc
  have r1 := room_lt (s := k) (b := 1 + c) (by omega)
  have r2 := room_mod (s := k) (b := 1 + c) k1.1 (by omega)
  have K1 := fun u => pdRoom_any k (1 + c) u (by omega) (by omega)
  obtain ⟨r, hr⟩ : ∃ r, r = roomI k (1 + c) := ⟨_, rfl⟩
  rw [← hr] at r1 r2 K1
  have r3 : (k + 4 + r).tmod (1 + c) = 0 := by rw [Int.tmod_eq_emod_of_nonneg (by omega)]; exact r2
  have K0 : ∀ (x y : Int) (u : World), (x < 0 ∨ y < 1) → x ≤ 1048576 → y ≤ 4096 → Calls Try.prog 16 #[.int .i64 x, .int .i64 y] u fun e w' => e = .returned (.int .i64 0) ∧ w' = u := fun x y u h hx hy => by
    have := pdRoom_any x y u (by omega) (by omega)
    rw [room_none h] at this
    exact this
  clear hr
  have hd : (1 + c = 0) = False := by simp; omega
  go_enter Try.func5, Try.ntmps5
  go_wp2_with (first
    | (go_at_call 18; go_must (refine (awake_any _).mono ?_); rintro e w0 ⟨rfl, b0⟩)
    | (go_at_call 16; have _t := K1; go_must (refine (K1 _).mono ?_); rintro e w' ⟨rfl, hw⟩; obtain rfl := hw.symm; clear K1 _t)
    | (go_at_call 16; go_must (refine (K0 _ _ _ (by omega) (by omega) (by omega)).mono ?_); rintro e w' ⟨rfl, hw⟩; obtain rfl := hw.symm))
  go_ret
  exact ⟨ret_bool (by simp), b0⟩

theorem own : ownKnob Try.prog.godebug = none := by kernel_rfl

set_option maxRecDepth 100000 in
theorem lifted (os : Os) (started : os.Started) (H : Type) (enc : TypeId × Value → H) :
    ReturnsInHanded {} Try.checked os 5 .any (Rows.padRoomsSpec.pre6 enc Try.prog Try.f5 Rows.padRoomsRow.domain false) (Rows.padRoomsSpec.post enc Try.prog Try.f5 false true false false) := by
  refine returnsInHanded_of_change (C := Try.checked) own started (by kernel_rfl) Try.func5
    (ChangeSpec.witness6 (enc := enc) (C := Try.checked) false ⟨#[], #[.int .i64 0, .int .i64 0], []⟩ 8 (by kernel_rfl) (by kernel_rfl) (by kernel_rfl) (by kernel_rfl)) ?_
  intro W base args ds gs before hval0 hW _ _
  have hval : ∀ (j : Nat) t v, Try.f5.params[j]? = some t → args[j]? = some v → Value.okWide Try.prog W .any base t v := hval0
  have hW' := hW
  obtain ⟨p, q, hA0, hV, rfl, hfz, hnd⟩ := hW
  have hA : DataW.TrodAll enc Try.prog W 0 (fun _ => true) true Try.f5.params.toList args.toList ds p := hA0
  rw [Try.params5] at hA hval
  obtain ⟨v0, vs0, d0, ds0, p0, q0, hargs, rfl, rfl, h0, r0⟩ := trodAll_cons hA
  obtain ⟨v1, vs1, d1, ds1, p1, q1, rfl, rfl, rfl, h1, r1⟩ := trodAll_cons r0
  obtain ⟨rfl, rfl, rfl⟩ := trodAll_nil r1
  obtain rfl : args = #[v0, v1] := by cases args; simp_all
  obtain ⟨rfl, rfl⟩ := trodVars_none hV
  obtain ⟨a0, rfl, rfl, rfl, w0⟩ := open_int Try.underlying3 (hval 0 3 v0 rfl rfl) h0
  obtain ⟨a1, rfl, rfl, rfl, w1⟩ := open_int Try.underlying3 (hval 1 3 v1 rfl rfl) h1
  clear hA0 hval0
  simp only [List.append_nil] at hW'
  refine (walk a0 a1 w0 w1 W ).mono fun e W' ⟨he, bel⟩ => ?_
  subst he
  exact ⟨_, rfl, _, _, _, [], [], [], hW', trodAll_mk1 (shut_bool Try.underlying4 _), (trodAll_cons_mk (shut_int Try.underlying3 w0) (trodAll_cons_mk (shut_int Try.underlying3 w1) trodAll_mk0)), rfl, bel.frame _, fun h => by cases h⟩

/-- The statement. -/
theorem proved : Rows.PadRoomsSaid :=
  OpenClaim.holds_of_wide 5 Try.f5 rfl rfl rfl rfl rfl rfl rfl ⟨rfl, rfl, rfl, rfl, rfl⟩ rfl rfl rfl rfl rfl (by kernel_rfl) Try.func5 (by kernel_rfl)
    (of_decide_eq_true (by kernel_rfl)) (by unfold Func.isWrapper; first | (rw [if_pos (by decide +kernel)]; kernel_rfl) | (rw [if_neg (by decide +kernel)]; exact ⟨rfl, rfl⟩))
    (fun os started H enc _ => lifted os started H enc)
#print axioms proved

end Go.Proofs.Ytcapankhobnfeaa.padRooms
