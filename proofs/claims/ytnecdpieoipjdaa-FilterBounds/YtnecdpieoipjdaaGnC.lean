/- A message as it comes in, and how great its rows may be, where the seat has no text of package wire's to take them from. -/
import Derived.Test.YtnecdpieoipjdaaGnB
import Derived.ChangeSlices
import Derived.SliceStrings
import Derived.Carry
import Derived.ProofKit
import Derived.OpenShut
import Derived.ShutString
namespace Go.Proofs.Ytnecdpieoipjdaa
open Go.ChangeShapes Go.WideShapes Go.ChangeAt Go.RowKit

theorem spot_none {w : World} {a : Addr} {v : Value} (h : w.cell? a = some v) : a.spot = none := by
  unfold World.cell? at h
  split at h
  · split at h
    · simp at h
    · rename_i h1; simpa using h1
  · simp at h
/-- One thing for each number below n. -/
theorem list_of {α : Type} {P : Nat → α → Prop} : ∀ (n : Nat), (∀ i, i < n → ∃ x, P i x) → ∃ xs : List α, xs.length = n ∧ ∀ i (h : i < xs.length), P i xs[i] := by
  intro n
  induction n with
  | zero => intro _; exact ⟨[], rfl, fun i h => by simp at h⟩
  | succ n ih =>
    intro h
    obtain ⟨xs, hl, hx⟩ := ih (fun i hi => h i (by omega))
    obtain ⟨x, hp⟩ := h n (by omega)
    refine ⟨xs ++ [x], by simp [hl], fun i hi => ?_⟩
    by_cases e : i < xs.length
    · rw [List.getElem_append_left e]; exact hx i e
    · have : i = n := by simp at hi; omega
      subst this
      rw [List.getElem_append_right (by omega)]
      simpa [hl] using hp
theorem add_in {g o k j : Nat} : ((⟨g, o, none⟩ : Addr).add k).add j = ⟨g, o + (k + j), none⟩ := by
  unfold Addr.add
  split <;> split <;> simp_all <;> omega
/-- A row of elements of z cells each, as it is read. -/
theorem row_of {α : Type} {f : α → List Value} {z : Nat} (hz : ∀ x, (f x).length = z) (hz0 : 0 < z) {w : World} {a : Addr} {len cap : Nat} {xs : List α} (hl : xs.length = len)
    (h : ∀ i (hi : i < xs.length), ∀ j, j < z → w.cell? ((a.add (i * z)).add j) = (f xs[i])[j]?) : Row w (.slice (some a) len cap) len (xs.flatMap f) := by
  obtain ⟨g, o, p⟩ := a
  have hp : 0 < len → p = none := fun h0 => by
    have h1 := h 0 (by omega) 0 hz0
    have h2 : w.cell? ⟨g, o, p⟩ = (f xs[0])[0]? := by simpa [Addr.add] using h1
    rw [List.getElem?_eq_getElem (by rw [hz]; exact hz0)] at h2
    exact spot_none h2
  refine .inr ⟨g, o, p, cap, rfl, hp, fun j u hu => ?_⟩
  have hj : j < xs.length * z := by have := (List.getElem?_eq_some_iff.1 hu).1; rwa [flat_len hz] at this
  have hlen : 0 < len := by
    cases len with
    | zero => rw [hl] at hj; simp at hj
    | succ n => omega
  have hp0 := hp hlen
  subst hp0
  have hi : j / z < xs.length := Nat.div_lt_of_lt_mul (by rw [Nat.mul_comm]; exact hj)
  have hm := Nat.mod_lt j hz0
  have e : j / z * z + j % z = j := by rw [Nat.mul_comm]; exact Nat.div_add_mod j z
  have h1 := h (j / z) hi (j % z) hm
  rw [add_in, e] at h1
  rw [h1, ← flat_get hz xs (j / z) hi (j % z) hm, e]
  exact hu
theorem s_cellsOf : Try.prog.cellsOf 9 = 1 := by kernel_rfl
theorem weights_all {H : Type} {P : Program} {ts : List TypeId} {ds : List (DataW H)} (h : (DataW.weightsEach P ts ds).all (· ≤ reachBytes) = true) {j : Nat} {t : TypeId} {d : DataW H} (ht : ts[j]? = some t) (hd : ds[j]? = some d) : (d.weights P t).all (· ≤ reachBytes) = true :=
  List.all_eq_true.2 fun n hn => List.all_eq_true.1 h n (DataW.weights_mem_each ht hd n hn)
theorem row_weight {H : Type} {enc : TypeId × Value → H} {W : World} {fuel : Nat} {t e : TypeId} {c : Value} {x : DataW H × List MemPlace} (hu : Try.prog.underlying t = some (.slice e)) (h : DataW.trod enc Try.prog W 0 (fun _ => true) true fuel t [c] = some x)
    (hw : (x.1.weights Try.prog t).all (· ≤ reachBytes) = true) {y : Option Addr} {n k : Nat} (hc : c = .slice y n k) : n * Try.prog.bytesOf e ≤ reachBytes := by
  rcases DataW.trod_slice hu h with ⟨h0, _⟩ | ⟨a, len, cap, elems, rest, _, _, hcs, hx, _, _, _, hlen, _⟩
  · rw [hc] at h0
    simp at h0
    rw [h0.2.1, Nat.zero_mul]
    exact Nat.zero_le _
  · rw [hc] at hcs
    simp at hcs
    rw [hx] at hw
    have := List.all_eq_true.1 hw ((elems.length + rest.length) * Try.prog.bytesOf e) (by simp [DataW.weights, hu])
    simp only [decide_eq_true_eq] at this
    refine Nat.le_trans (Nat.mul_le_mul_right _ ?_) this
    rw [hcs.2.1, hlen]
    omega
theorem r_cellsOf : Try.prog.cellsOf 42 = 5 := by kernel_rfl
section
variable {H : Type} {enc : TypeId × Value → H} {W : World}
set_option maxRecDepth 20000 in
theorem open_rrow {fuel : Nat} {c : Value} {x : DataW H × List MemPlace} (h : DataW.trod enc Try.prog W 0 (fun _ => true) true fuel 25 [c] = some x) : ∃ rs, RRow W c rs := by
  rcases DataW.trod_slice Try.underlying25 h with ⟨h0, _⟩ | ⟨a, len, cap, elems, rest, n, _, hcs, _, _, hlc, hcm, hlen, hel, _, _⟩
  · simp at h0
    subst h0
    exact ⟨[], RRow.nil W⟩
  · simp at hcs
    subst hcs
    have each : ∀ i, i < len → ∃ q : Rc, (∀ j, j < 5 → W.cell? ((a.add (i * 5)).add j) = (rV q)[j]?) ∧ q.n.size ≤ maxLen ∧ q.d.size ≤ maxLen := by
      intro i hi
      have hb := hel i hi
      rw [r_cellsOf] at hb
      have hs : (elems[i]?).isSome = true := by rw [List.getElem?_eq_getElem (by omega)]; rfl
      rw [← hb] at hs
      obtain ⟨y, hy⟩ := Option.isSome_iff_exists.1 hs
      rw [Option.bind_eq_some_iff] at hy
      obtain ⟨cs, hcs, hy⟩ := hy
      obtain ⟨_, hcl, hcell⟩ := World.cells?_some hcs
      obtain ⟨xs, k, _, _, _, hxl, hf⟩ := DataW.trod_struct Try.underlying42 hy
      match xs, hxl, cs, hcl, hcell, hf with
      | [y0, y1, y2, y3, y4], _, [c0, c1, c2, c3, c4], _, hcell, hf =>
        have t0 := hf 0 _ rfl
        have t1 := hf 1 _ rfl
        have t2 := hf 2 _ rfl
        have t3 := hf 3 _ rfl
        have t4 := hf 4 _ rfl
        simp [s_cellsOf, int_cells] at t0 t1 t2 t3 t4
        obtain ⟨s, e0, _, hss⟩ := DataW.trod_string Try.underlying9 t0
        obtain ⟨t, e1, _, _⟩ := DataW.trod_int Try.underlying3 t1
        obtain ⟨u, e2, _, _⟩ := DataW.trod_int Try.underlying3 t2
        obtain ⟨l, e3, _, _⟩ := DataW.trod_int Try.underlying3 t3
        obtain ⟨d, e4, _, hds⟩ := DataW.trod_string Try.underlying9 t4
        simp at e0 e1 e2 e3 e4
        refine ⟨⟨s, t, u, l, d⟩, fun j hj => ?_, hss, hds⟩
        have := hcell j (by simpa using hj)
        rw [this]
        subst e0 e1 e2 e3 e4
        rfl
    obtain ⟨qs, hl, hq⟩ := list_of len each
    refine ⟨qs, ?_, by omega, fun q hq' => ?_⟩
    · rw [hl]
      exact row_of (f := rV) (z := 5) (fun _ => rfl) (by decide) hl (fun i hi j hj => (hq i hi).1 j hj)
    · obtain ⟨i, hi, rfl⟩ := List.getElem_of_mem hq'
      exact (hq i hi).2
end
theorem q_cellsOf : Try.prog.cellsOf 58 = 3 := by kernel_rfl
theorem m_cellsOf : Try.prog.cellsOf 27 = 13 := by kernel_rfl
theorem qs_cellsOf : Try.prog.cellsOf 24 = 1 := by kernel_rfl
theorem rs_cellsOf : Try.prog.cellsOf 25 = 1 := by kernel_rfl
theorem head_cells : Try.prog.cellsOf 23 = 9 := by kernel_rfl
section
variable {H : Type} {enc : TypeId × Value → H} {W : World}
set_option maxRecDepth 20000 in
theorem open_qrow {fuel : Nat} {c : Value} {x : DataW H × List MemPlace} (h : DataW.trod enc Try.prog W 0 (fun _ => true) true fuel 24 [c] = some x) : ∃ qs, QRow W c qs := by
  rcases DataW.trod_slice Try.underlying24 h with ⟨h0, _⟩ | ⟨a, len, cap, elems, rest, n, _, hcs, _, _, hlc, hcm, hlen, hel, _, _⟩
  · simp at h0
    subst h0
    exact ⟨[], QRow.nil W⟩
  · simp at hcs
    subst hcs
    have each : ∀ i, i < len → ∃ q : Qn, (∀ j, j < 3 → W.cell? ((a.add (i * 3)).add j) = (qV q)[j]?) ∧ q.n.size ≤ maxLen := by
      intro i hi
      have hb := hel i hi
      rw [q_cellsOf] at hb
      have hs : (elems[i]?).isSome = true := by rw [List.getElem?_eq_getElem (by omega)]; rfl
      rw [← hb] at hs
      obtain ⟨y, hy⟩ := Option.isSome_iff_exists.1 hs
      rw [Option.bind_eq_some_iff] at hy
      obtain ⟨cs, hcs, hy⟩ := hy
      obtain ⟨_, hcl, hcell⟩ := World.cells?_some hcs
      obtain ⟨xs, k, _, _, _, hxl, hf⟩ := DataW.trod_struct Try.underlying58 hy
      match xs, hxl, cs, hcl, hcell, hf with
      | [y0, y1, y2], _, [c0, c1, c2], _, hcell, hf =>
        have t0 := hf 0 _ rfl
        have t1 := hf 1 _ rfl
        have t2 := hf 2 _ rfl
        simp [s_cellsOf, int_cells] at t0 t1 t2
        obtain ⟨s, e0, _, hss⟩ := DataW.trod_string Try.underlying9 t0
        obtain ⟨t, e1, _, _⟩ := DataW.trod_int Try.underlying3 t1
        obtain ⟨u, e2, _, _⟩ := DataW.trod_int Try.underlying3 t2
        simp at e0 e1 e2
        refine ⟨⟨s, t, u⟩, fun j hj => ?_, hss⟩
        have := hcell j (by simpa using hj)
        rw [this]
        subst e0 e1 e2
        rfl
    obtain ⟨qs, hl, hq⟩ := list_of len each
    refine ⟨qs, ?_, by omega, fun q hq' => ?_⟩
    · rw [hl]
      exact row_of (f := qV) (z := 3) (fun _ => rfl) (by decide) hl (fun i hi j hj => (hq i hi).1 j hj)
    · obtain ⟨i, hi, rfl⟩ := List.getElem_of_mem hq'
      exact (hq i hi).2
end
set_option maxRecDepth 100000 in
set_option maxHeartbeats 1000000 in
/-- An api.Msg as it comes in. -/
theorem open_msg {H : Type} {enc : TypeId × Value → H} {W : World} {r : Reach} {b0 : Nat} {v : Value} {d : DataW H} {p : List MemPlace} (hval : Value.okWide Try.prog W r b0 27 v) (h0 : DataW.Trod enc Try.prog W 0 (fun _ => true) true 27 v d p) :
    ∃ (m : Ms) (v0 v1 v2 v3 : Value), v = .agg (msgC m.h v0 v1 v2 v3) ∧ QRow W v0 m.qs ∧ RRow W v1 m.an ∧ RRow W v2 m.ns ∧ RRow W v3 m.ar := by
  obtain ⟨cs, rfl, hsz⟩ := okWide_struct Try.underlying27 hval
  obtain ⟨fuel, hf⟩ := h0
  obtain ⟨xs, n, _, hx, hl, hlen, hfs⟩ := DataW.trod_struct Try.underlying27 hf
  obtain ⟨l, rfl⟩ : ∃ l : List Value, cs = l.toArray := ⟨cs.toList, by simp⟩
  have hl13 : l.length = 13 := by rw [m_cellsOf] at hsz; simpa using hsz
  match l, hl13 with
  | [c0, c1, c2, c3, c4, c5, c6, c7, c8, c9, c10, c11, c12], _ =>
  match xs, hlen with
  | [y0, y1, y2, y3, y4], _ =>
    have t0 := hfs 0 _ rfl
    have t1 := hfs 1 _ rfl
    have t2 := hfs 2 _ rfl
    have t3 := hfs 3 _ rfl
    have t4 := hfs 4 _ rfl
    simp [head_cells, qs_cellsOf, rs_cellsOf, Value.cells] at t0 t1 t2 t3 t4
    obtain ⟨q0, h1⟩ := open_qrow t1
    obtain ⟨q1, h2⟩ := open_rrow t2
    obtain ⟨q2, h3⟩ := open_rrow t3
    obtain ⟨q3, h4⟩ := open_rrow t4
    obtain ⟨zs, k, _, _, _, hzl, hz⟩ := DataW.trod_struct Try.underlying23 t0
    match zs, hzl with
    | [z0, z1, z2, z3, z4, z5, z6, z7, z8], _ =>
      have u0 := hz 0 _ rfl
      have u1 := hz 1 _ rfl
      have u2 := hz 2 _ rfl
      have u3 := hz 3 _ rfl
      have u4 := hz 4 _ rfl
      have u5 := hz 5 _ rfl
      have u6 := hz 6 _ rfl
      have u7 := hz 7 _ rfl
      have u8 := hz 8 _ rfl
      simp [bool_cells, int_cells] at u0 u1 u2 u3 u4 u5 u6 u7 u8
      obtain ⟨id, e0, x0, _⟩ := DataW.trod_int Try.underlying3 u0
      obtain ⟨qr, e1, x1⟩ := DataW.trod_bool Try.underlying4 u1
      obtain ⟨op, e2, x2, _⟩ := DataW.trod_int Try.underlying3 u2
      obtain ⟨aa, e3, x3⟩ := DataW.trod_bool Try.underlying4 u3
      obtain ⟨tc, e4, x4⟩ := DataW.trod_bool Try.underlying4 u4
      obtain ⟨rd, e5, x5⟩ := DataW.trod_bool Try.underlying4 u5
      obtain ⟨ra, e6, x6⟩ := DataW.trod_bool Try.underlying4 u6
      obtain ⟨z, e7, x7, _⟩ := DataW.trod_int Try.underlying3 u7
      obtain ⟨rc, e8, x8, _⟩ := DataW.trod_int Try.underlying3 u8
      simp at e0 e1 e2 e3 e4 e5 e6 e7 e8
      subst e0 e1 e2 e3 e4 e5 e6 e7 e8
      exact ⟨⟨⟨id, qr, op, aa, tc, rd, ra, z, rc⟩, q0, q1, q2, q3⟩, c9, c10, c11, c12, rfl, h1, h2, h3, h4⟩
theorem q_bytes : Try.prog.bytesOf 58 = 32 := by kernel_rfl
theorem r_bytes : Try.prog.bytesOf 42 = 56 := by kernel_rfl
set_option maxRecDepth 100000 in
set_option maxHeartbeats 1000000 in
theorem msg_sized {H : Type} {enc : TypeId × Value → H} {W : World} {d : DataW H} {p : List MemPlace} {m : Ms} {v0 v1 v2 v3 : Value} (h0 : DataW.Trod enc Try.prog W 0 (fun _ => true) true 27 (.agg (msgC m.h v0 v1 v2 v3)) d p) (hw : (d.weights Try.prog 27).all (· ≤ reachBytes) = true)
    (q0 : QRow W v0 m.qs) (q1 : RRow W v1 m.an) (q2 : RRow W v2 m.ns) (q3 : RRow W v3 m.ar) : m.qs.length * 32 ≤ 140737488351232 ∧ m.an.length * 56 ≤ 140737488351232 ∧ m.ns.length * 56 ≤ 140737488351232 ∧ m.ar.length * 56 ≤ 140737488351232 := by
  obtain ⟨fuel, hf⟩ := h0
  obtain ⟨xs, n, _, hx, hl, hlen, hfs⟩ := DataW.trod_struct Try.underlying27 hf
  obtain ⟨c0, k0, e0⟩ := row_slice q0.1
  obtain ⟨c1, k1, e1⟩ := row_slice q1.1
  obtain ⟨c2, k2, e2⟩ := row_slice q2.1
  obtain ⟨c3, k3, e3⟩ := row_slice q3.1
  match xs, hlen with
  | [y0, y1, y2, y3, y4], _ =>
    have t1 := hfs 1 _ rfl
    have t2 := hfs 2 _ rfl
    have t3 := hfs 3 _ rfl
    have t4 := hfs 4 _ rfl
    simp [qs_cellsOf, rs_cellsOf, Value.cells, msgC] at t1 t2 t3 t4
    have hd : d = .agg [y0.1, y1.1, y2.1, y3.1, y4.1] := by
      have := congrArg Prod.fst hx
      simpa using this
    rw [hd] at hw
    have hw' : (DataW.weightsEach Try.prog [23, 24, 25, 25, 25] [y0.1, y1.1, y2.1, y3.1, y4.1]).all (· ≤ reachBytes) = true := by
      rw [← hw]
      unfold DataW.weights
      rw [Try.underlying27]
      rfl
    have b0 := row_weight Try.underlying24 t1 (weights_all hw' (j := 1) rfl rfl) e0
    have b1 := row_weight Try.underlying25 t2 (weights_all hw' (j := 2) rfl rfl) e1
    have b2 := row_weight Try.underlying25 t3 (weights_all hw' (j := 3) rfl rfl) e2
    have b3 := row_weight Try.underlying25 t4 (weights_all hw' (j := 4) rfl rfl) e3
    rw [q_bytes] at b0
    rw [r_bytes] at b1 b2 b3
    unfold reachBytes at b0 b1 b2 b3
    omega

end Go.Proofs.Ytnecdpieoipjdaa
