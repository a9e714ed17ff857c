/- A message as it comes in, and how great its rows may be, where the seat has no text of package wire's to take them from. -/
import Derived.Test.YtdaegnmokaibpaaGnB
import Derived.ChangeSlices
import Derived.SliceStrings
import Derived.Carry
import Derived.ProofKit
import Derived.OpenShut
import Derived.ShutString
namespace Go.Proofs.Ytdaegnmokaibpaa
open Go.ChangeShapes Go.WideShapes Go.ChangeAt Go.RowKit

theorem spot_none {w : World} {a : Addr} {v : Value} (h : w.cell? a = some v) : a.spot = none := by
  unfold World.cell? at h
  split at h
  · split at h
    · simp at h
    · rename_i h1; simpa using h1
  · simp at h
/-- One thing for each number below n. -/
theorem list_of {α : Type} {P : Nat → α → Prop} : ∀ (n : Nat), (∀ i, i < n → ∃ x, P i x) → ∃ xs : List α, xs.length = n ∧ ∀ i (h : i < xs.length), P i xs[i] := by
  intro n
  induction n with
  | zero => intro _; exact ⟨[], rfl, fun i h => by simp at h⟩
  | succ n ih =>
    intro h
    obtain ⟨xs, hl, hx⟩ := ih (fun i hi => h i (by omega))
    obtain ⟨x, hp⟩ := h n (by omega)
    refine ⟨xs ++ [x], by simp [hl], fun i hi => ?_⟩
    by_cases e : i < xs.length
    · rw [List.getElem_append_left e]; exact hx i e
    · have : i = n := by simp at hi; omega
      subst this
      rw [List.getElem_append_right (by omega)]
      simpa [hl] using hp
theorem add_in {g o k j : Nat} : ((⟨g, o, none⟩ : Addr).add k).add j = ⟨g, o + (k + j), none⟩ := by
  unfold Addr.add
  split <;> split <;> simp_all <;> omega
/-- A row of elements of z cells each, as it is read. -/
theorem row_of {α : Type} {f : α → List Value} {z : Nat} (hz : ∀ x, (f x).length = z) (hz0 : 0 < z) {w : World} {a : Addr} {len cap : Nat} {xs : List α} (hl : xs.length = len)
    (h : ∀ i (hi : i < xs.length), ∀ j, j < z → w.cell? ((a.add (i * z)).add j) = (f xs[i])[j]?) : Row w (.slice (some a) len cap) len (xs.flatMap f) := by
  obtain ⟨g, o, p⟩ := a
  have hp : 0 < len → p = none := fun h0 => by
    have h1 := h 0 (by omega) 0 hz0
    have h2 : w.cell? ⟨g, o, p⟩ = (f xs[0])[0]? := by simpa [Addr.add] using h1
    rw [List.getElem?_eq_getElem (by rw [hz]; exact hz0)] at h2
    exact spot_none h2
  refine .inr ⟨g, o, p, cap, rfl, hp, fun j u hu => ?_⟩
  have hj : j < xs.length * z := by have := (List.getElem?_eq_some_iff.1 hu).1; rwa [flat_len hz] at this
  have hlen : 0 < len := by
    cases len with
    | zero => rw [hl] at hj; simp at hj
    | succ n => omega
  have hp0 := hp hlen
  subst hp0
  have hi : j / z < xs.length := Nat.div_lt_of_lt_mul (by rw [Nat.mul_comm]; exact hj)
  have hm := Nat.mod_lt j hz0
  have e : j / z * z + j % z = j := by rw [Nat.mul_comm]; exact Nat.div_add_mod j z
  have h1 := h (j / z) hi (j % z) hm
  rw [add_in, e] at h1
  rw [h1, ← flat_get hz xs (j / z) hi (j % z) hm, e]
  exact hu
theorem s_cellsOf : Try.prog.cellsOf 9 = 1 := by kernel_rfl
theorem weights_all {H : Type} {P : Program} {ts : List TypeId} {ds : List (DataW H)} (h : (DataW.weightsEach P ts ds).all (· ≤ reachBytes) = true) {j : Nat} {t : TypeId} {d : DataW H} (ht : ts[j]? = some t) (hd : ds[j]? = some d) : (d.weights P t).all (· ≤ reachBytes) = true :=
  List.all_eq_true.2 fun n hn => List.all_eq_true.1 h n (DataW.weights_mem_each ht hd n hn)
theorem row_weight {H : Type} {enc : TypeId × Value → H} {W : World} {fuel : Nat} {t e : TypeId} {c : Value} {x : DataW H × List MemPlace} (hu : Try.prog.underlying t = some (.slice e)) (h : DataW.trod enc Try.prog W 0 (fun _ => true) true fuel t [c] = some x)
    (hw : (x.1.weights Try.prog t).all (· ≤ reachBytes) = true) {y : Option Addr} {n k : Nat} (hc : c = .slice y n k) : n * Try.prog.bytesOf e ≤ reachBytes := by
  rcases DataW.trod_slice hu h with ⟨h0, _⟩ | ⟨a, len, cap, elems, rest, _, _, hcs, hx, _, _, _, hlen, _⟩
  · rw [hc] at h0
    simp at h0
    rw [h0.2.1, Nat.zero_mul]
    exact Nat.zero_le _
  · rw [hc] at hcs
    simp at hcs
    rw [hx] at hw
    have := List.all_eq_true.1 hw ((elems.length + rest.length) * Try.prog.bytesOf e) (by simp [DataW.weights, hu])
    simp only [decide_eq_true_eq] at this
    refine Nat.le_trans (Nat.mul_le_mul_right _ ?_) this
    rw [hcs.2.1, hlen]
    omega
theorem r_cellsOf : Try.prog.cellsOf 43 = 5 := by kernel_rfl
section
variable {H : Type} {enc : TypeId × Value → H} {W : World}
set_option maxRecDepth 20000 in
theorem open_rrow {fuel : Nat} {c : Value} {x : DataW H × List MemPlace} (h : DataW.trod enc Try.prog W 0 (fun _ => true) true fuel 22 [c] = some x) : ∃ rs, RRow W c rs := by
  rcases DataW.trod_slice Try.underlying22 h with ⟨h0, _⟩ | ⟨a, len, cap, elems, rest, n, _, hcs, _, _, hlc, hcm, hlen, hel, _, _⟩
  · simp at h0
    subst h0
    exact ⟨[], RRow.nil W⟩
  · simp at hcs
    subst hcs
    have each : ∀ i, i < len → ∃ q : Rc, (∀ j, j < 5 → W.cell? ((a.add (i * 5)).add j) = (rV q)[j]?) ∧ q.n.size ≤ maxLen ∧ q.d.size ≤ maxLen := by
      intro i hi
      have hb := hel i hi
      rw [r_cellsOf] at hb
      have hs : (elems[i]?).isSome = true := by rw [List.getElem?_eq_getElem (by omega)]; rfl
      rw [← hb] at hs
      obtain ⟨y, hy⟩ := Option.isSome_iff_exists.1 hs
      rw [Option.bind_eq_some_iff] at hy
      obtain ⟨cs, hcs, hy⟩ := hy
      obtain ⟨_, hcl, hcell⟩ := World.cells?_some hcs
      obtain ⟨xs, k, _, _, _, hxl, hf⟩ := DataW.trod_struct Try.underlying43 hy
      match xs, hxl, cs, hcl, hcell, hf with
      | [y0, y1, y2, y3, y4], _, [c0, c1, c2, c3, c4], _, hcell, hf =>
        have t0 := hf 0 _ rfl
        have t1 := hf 1 _ rfl
        have t2 := hf 2 _ rfl
        have t3 := hf 3 _ rfl
        have t4 := hf 4 _ rfl
        simp [s_cellsOf, int_cells] at t0 t1 t2 t3 t4
        obtain ⟨s, e0, _, hss⟩ := DataW.trod_string Try.underlying9 t0
        obtain ⟨t, e1, _, _⟩ := DataW.trod_int Try.underlying3 t1
        obtain ⟨u, e2, _, _⟩ := DataW.trod_int Try.underlying3 t2
        obtain ⟨l, e3, _, _⟩ := DataW.trod_int Try.underlying3 t3
        obtain ⟨d, e4, _, hds⟩ := DataW.trod_string Try.underlying9 t4
        simp at e0 e1 e2 e3 e4
        refine ⟨⟨s, t, u, l, d⟩, fun j hj => ?_, hss, hds⟩
        have := hcell j (by simpa using hj)
        rw [this]
        subst e0 e1 e2 e3 e4
        rfl
    obtain ⟨qs, hl, hq⟩ := list_of len each
    refine ⟨qs, ?_, by omega, fun q hq' => ?_⟩
    · rw [hl]
      exact row_of (f := rV) (z := 5) (fun _ => rfl) (by decide) hl (fun i hi j hj => (hq i hi).1 j hj)
    · obtain ⟨i, hi, rfl⟩ := List.getElem_of_mem hq'
      exact (hq i hi).2
end

end Go.Proofs.Ytdaegnmokaibpaa
