/- What SameOptions and SameOpt give of options that are the same: true. -/
import Derived.Test.YtfhaogacblnnnaaOpA
namespace Go.Proofs.Ytfhaogacblnnnaa
open Go.RowKit

set_option maxRecDepth 20000 in
theorem sameO_yes (v v' : Value) (qs : List On) (w : World) (h : Row w v qs.length (oC qs)) (h' : Row w v' qs.length (oC qs)) (hm : qs.length ≤ maxLen) :
    Calls Try.prog 14 #[v, v'] w fun e w' => e = .returned (.bool true) ∧ Below w.heap.size w w' := by
  obtain ⟨n, hn⟩ : ∃ n, n = qs.length := ⟨_, rfl⟩
  unfold maxLen at hm
  have HN : Hid (n = qs.length) := hn
  rw [← hn] at h h' hm
  obtain ⟨x, c, rfl⟩ := row_slice h
  obtain ⟨x', c', rfl⟩ := row_slice h'
  have HR : Hid (Row w (.slice x n c) n (oC qs)) := h
  have HR' : Hid (Row w (.slice x' n c') n (oC qs)) := h'
  have hb : Below w.heap.size w w := Below.refl _ _
  clear h h' hn
  go_enter Try.func14, Try.ntmps14
  go_wp2
  go_loopw [5] (fun i wr => ∃ k : Nat, k ≤ n ∧ i = .int .i64 (k : Int) ∧ Below w.heap.size w wr) (fun i _ => n - (intOf i).toNat)
  case atStart => exact ⟨0, Nat.zero_le _, rfl, hb⟩
  case round =>
    clear hb
    obtain ⟨k, hk, rfl, hb⟩ := hrel
    by_cases hkn : k < n
    · have hkm : k < qs.length := by have := HN.out; omega
      have hkn' : (k : Int) < (n : Int) := by omega
      obtain ⟨g, o, cap, hx, hc⟩ := row_at (HR.out.below hb) (by omega)
      obtain ⟨g', o', cap', hx', hc'⟩ := row_at (HR'.out.below hb) (by omega)
      simp only [Value.slice.injEq] at hx hx'
      obtain ⟨rfl, -, rfl⟩ := hx
      obtain ⟨rfl, -, rfl⟩ := hx'
      obtain ⟨d0, d1⟩ := o_cells hc hkm
      obtain ⟨e0, e1⟩ := o_cells hc' hkm
      obtain ⟨q, hq⟩ : ∃ q, q = qs[k] := ⟨_, rfl⟩
      simp only [← hq] at d0 d1 e0 e1
      obtain ⟨qc, qd⟩ := q
      simp only at d0 d1 e0 e1
      clear hc hq hc'
      go_wp2
      go_region
      go_wp2
      go_roundw
      case rel => exact ⟨k + 1, by omega, by go_num, next hb (below_drew ⟨1, rfl⟩)⟩
      case measure => simp [intOf]; omega
    · have hkn' : decide (k < n) = false := by simpa using hkn
      go_wp2
      go_ret
      exact ⟨rfl, hb⟩

set_option maxRecDepth 20000 in
set_option maxHeartbeats 1000000 in
theorem sameOpt_yes (o : Ot) (v v' : Value) (w : World) (h : Row w v o.os.length (oC o.os)) (h' : Row w v' o.os.length (oC o.os)) (hm : o.os.length ≤ maxLen) :
    Calls Try.prog 9 #[.agg (optC o v), .agg (optC o v')] w fun e w' => e = .returned (.bool true) ∧ Below w.heap.size w w' := by
  obtain ⟨s, e, vv, b, z, os⟩ := o
  simp only at h h' hm
  obtain ⟨x, c, rfl⟩ := row_slice h
  obtain ⟨x', c', rfl⟩ := row_slice h'
  have K0 : ∀ u, Hid (Below w.heap.size w u) → _ := fun u hu => sameO_yes _ _ os u (h.below hu.out) (h'.below hu.out) hm
  have hb : Below w.heap.size w w := Below.refl _ _
  unfold optC
  simp only
  clear h h' hm
  go_enter Try.func9, Try.ntmps9
  go_wp2_with (go_at_call 14; go_must (refine (K0 _ (lay (lay hb _) _)).mono ?_); rintro e w1 ⟨rfl, b1⟩; replace hb := next (lay (lay hb _) _) b1; clear b1)
  go_ret
  exact ⟨ret_bool (by simp), hb⟩

end Go.Proofs.Ytfhaogacblnnnaa
