/- How great the rows of a message that came in may be. -/
import Derived.Test.YtcapankhobnfeaaXP6
import Derived.SizedLaws
namespace Go.Proofs.Ytcapankhobnfeaa
open Go.RowKit
open Pl

theorem q_bytes : Try.prog.bytesOf 46 = 32 := by kernel_rfl
theorem r_bytes : Try.prog.bytesOf 54 = 56 := by kernel_rfl
theorem weights_all {H : Type} {P : Program} {ts : List TypeId} {ds : List (DataW H)} (h : (DataW.weightsEach P ts ds).all (· ≤ reachBytes) = true) {j : Nat} {t : TypeId} {d : DataW H} (ht : ts[j]? = some t) (hd : ds[j]? = some d) : (d.weights P t).all (· ≤ reachBytes) = true :=
  List.all_eq_true.2 fun n hn => List.all_eq_true.1 h n (DataW.weights_mem_each ht hd n hn)
theorem row_weight {H : Type} {enc : TypeId × Value → H} {W : World} {fuel : Nat} {t e : TypeId} {c : Value} {x : DataW H × List MemPlace} (hu : Try.prog.underlying t = some (.slice e)) (h : DataW.trod enc Try.prog W 0 (fun _ => true) true fuel t [c] = some x)
    (hw : (x.1.weights Try.prog t).all (· ≤ reachBytes) = true) {y : Option Addr} {n k : Nat} (hc : c = .slice y n k) : n * Try.prog.bytesOf e ≤ reachBytes := by
  rcases DataW.trod_slice hu h with ⟨h0, _⟩ | ⟨a, len, cap, elems, rest, _, _, hcs, hx, _, _, _, hlen, _⟩
  · rw [hc] at h0
    simp at h0
    rw [h0.2.1, Nat.zero_mul]
    exact Nat.zero_le _
  · rw [hc] at hcs
    simp at hcs
    rw [hx] at hw
    have := List.all_eq_true.1 hw ((elems.length + rest.length) * Try.prog.bytesOf e) (by simp [DataW.weights, hu])
    simp only [decide_eq_true_eq] at this
    refine Nat.le_trans (Nat.mul_le_mul_right _ ?_) this
    rw [hcs.2.1, hlen]
    omega

set_option maxRecDepth 100000 in
set_option maxHeartbeats 1000000 in
theorem msg_sized {H : Type} {enc : TypeId × Value → H} {W : World} {d : DataW H} {p : List MemPlace} {m : Ms} {v0 v1 v2 v3 : Value} (h0 : DataW.Trod enc Try.prog W 0 (fun _ => true) true 29 (.agg (msgC m.h v0 v1 v2 v3)) d p) (hw : (d.weights Try.prog 29).all (· ≤ reachBytes) = true)
    (q0 : QRow W v0 m.qs) (q1 : RRow W v1 m.an) (q2 : RRow W v2 m.ns) (q3 : RRow W v3 m.ar) : m.qs.length * 32 ≤ 140737488351232 ∧ m.an.length * 56 ≤ 140737488351232 ∧ m.ns.length * 56 ≤ 140737488351232 ∧ m.ar.length * 56 ≤ 140737488351232 := by
  obtain ⟨fuel, hf⟩ := h0
  obtain ⟨xs, n, _, hx, hl, hlen, hfs⟩ := DataW.trod_struct Try.underlying29 hf
  obtain ⟨c0, k0, e0⟩ := row_slice q0.1
  obtain ⟨c1, k1, e1⟩ := row_slice q1.1
  obtain ⟨c2, k2, e2⟩ := row_slice q2.1
  obtain ⟨c3, k3, e3⟩ := row_slice q3.1
  match xs, hlen with
  | [y0, y1, y2, y3, y4], _ =>
    have t1 := hfs 1 _ rfl
    have t2 := hfs 2 _ rfl
    have t3 := hfs 3 _ rfl
    have t4 := hfs 4 _ rfl
    simp [qs_cellsOf, rs_cellsOf, Value.cells, msgC] at t1 t2 t3 t4
    have hd : d = .agg [y0.1, y1.1, y2.1, y3.1, y4.1] := by
      have := congrArg Prod.fst hx
      simpa using this
    rw [hd] at hw
    have hw' : (DataW.weightsEach Try.prog [25, 26, 27, 27, 27] [y0.1, y1.1, y2.1, y3.1, y4.1]).all (· ≤ reachBytes) = true := by
      rw [← hw]
      unfold DataW.weights
      rw [Try.underlying29]
      rfl
    have b0 := row_weight Try.underlying26 t1 (weights_all hw' (j := 1) rfl rfl) e0
    have b1 := row_weight Try.underlying27 t2 (weights_all hw' (j := 2) rfl rfl) e1
    have b2 := row_weight Try.underlying27 t3 (weights_all hw' (j := 3) rfl rfl) e2
    have b3 := row_weight Try.underlying27 t4 (weights_all hw' (j := 4) rfl rfl) e3
    rw [q_bytes] at b0
    rw [r_bytes] at b1 b2 b3
    unfold reachBytes at b0 b1 b2 b3
    omega

end Go.Proofs.Ytcapankhobnfeaa
