/- An api.Opt, an api.Rr as they come in. -/
import Derived.Test.YtfhaogacblnnnaaGnC
import Derived.Test.YtfhaogacblnnnaaOpA
namespace Go.Proofs.Ytfhaogacblnnnaa
open Go.ChangeShapes Go.WideShapes Go.ChangeAt Go.RowKit

theorem o_cellsOf : Try.prog.cellsOf 33 = 2 := by kernel_rfl
theorem o_bytes : Try.prog.bytesOf 33 = 24 := by kernel_rfl
theorem os_cellsOf : Try.prog.cellsOf 22 = 1 := by kernel_rfl
theorem opt_cellsOf : Try.prog.cellsOf 24 = 6 := by kernel_rfl
theorem weights_in {H : Type} {P : Program} {e : TypeId} {d : DataW H} {n : Nat} : ∀ {l : List (DataW H)}, d ∈ l → n ∈ d.weights P e → n ∈ DataW.weightsAll P e l := by
  intro l
  induction l with
  | nil => intro h; simp at h
  | cons a l ih =>
    intro h hn
    simp only [DataW.weightsAll, List.mem_append]
    rcases List.mem_cons.1 h with rfl | h
    · exact .inl hn
    · exact .inr (ih h hn)

section
variable {H : Type} {enc : TypeId × Value → H} {W : World}
set_option maxRecDepth 20000 in
theorem open_orow {fuel : Nat} {c : Value} {x : DataW H × List MemPlace} (h : DataW.trod enc Try.prog W 0 (fun _ => true) true fuel 22 [c] = some x) (hw : (x.1.weights Try.prog 22).all (· ≤ reachBytes) = true) : ∃ os, ORow W c os ∧ os.length * 24 ≤ far := by
  rcases DataW.trod_slice Try.underlying22 h with ⟨h0, _⟩ | ⟨a, len, cap, elems, rest, n, _, hcs, hx, _, hlc, hcm, hlen, hel, _, _⟩
  · simp at h0
    subst h0
    exact ⟨[], ORow.nil W, by simp [far]⟩
  · simp at hcs
    subst hcs
    rw [hx] at hw
    have hwa : ∀ y ∈ elems, (y.1.weights Try.prog 33).all (· ≤ reachBytes) = true := fun y hy => List.all_eq_true.2 fun k hk => List.all_eq_true.1 hw k (by
      simp only [DataW.weights, Try.underlying22, List.mem_cons, List.mem_append]
      exact .inr (.inl (weights_in (List.mem_map_of_mem hy) hk)))
    have hwl : len * 24 ≤ far := by
      have := List.all_eq_true.1 hw ((elems.length + rest.length) * Try.prog.bytesOf 33) (by simp [DataW.weights, Try.underlying22])
      simp only [decide_eq_true_eq] at this
      rw [o_bytes] at this
      unfold reachBytes at this
      unfold far
      omega
    have each : ∀ i, i < len → ∃ q : On, (∀ j, j < 2 → W.cell? ((a.add (i * 2)).add j) = (oV q)[j]?) ∧ q.d.size ≤ far := by
      intro i hi
      have hb := hel i hi
      rw [o_cellsOf] at hb
      have hs : elems[i]? = some elems[i] := List.getElem?_eq_getElem (by omega)
      have hm : elems[i] ∈ elems := List.getElem_mem _
      rw [hs, Option.bind_eq_some_iff] at hb
      obtain ⟨cs, hcs, hy⟩ := hb
      obtain ⟨_, hcl, hcell⟩ := World.cells?_some hcs
      have hwi := hwa _ hm
      obtain ⟨xs, k, _, hxx, _, hxl, hf⟩ := DataW.trod_struct Try.underlying33 hy
      match xs, hxl, cs, hcl, hcell, hf, hxx with
      | [y0, y1], _, [c0, c1], _, hcell, hf, hxx =>
        have t0 := hf 0 _ rfl
        have t1 := hf 1 _ rfl
        simp [s_cellsOf, int_cells] at t0 t1
        obtain ⟨t, e0, _, _⟩ := DataW.trod_int Try.underlying3 t0
        obtain ⟨d, e1, z1, _⟩ := DataW.trod_string Try.underlying9 t1
        simp at e0 e1
        have hd : elems[i].1 = .agg [y0.1, y1.1] := by
          have := congrArg Prod.fst hxx
          simpa using this
        rw [hd] at hwi
        have hw' : (DataW.weightsEach Try.prog [3, 9] [y0.1, y1.1]).all (· ≤ reachBytes) = true := by
          rw [← hwi]
          unfold DataW.weights
          rw [Try.underlying33]
          rfl
        have hz := sized_string hw' (j := 1) (t := 9) (bytes := d.data.toList) rfl (by rw [z1]; rfl)
        rw [data_len] at hz
        refine ⟨⟨t, d⟩, fun j hj => ?_, by unfold reachBytes at hz; unfold far; omega⟩
        have := hcell j (by simpa using hj)
        rw [this]
        subst e0 e1
        rfl
    obtain ⟨qs, hl, hq⟩ := list_of len each
    refine ⟨qs, ⟨?_, by omega, fun q hq' => ?_⟩, by rw [hl]; exact hwl⟩
    · rw [hl]
      exact row_of (f := oV) (z := 2) (fun _ => rfl) (by decide) hl (fun i hi j hj => (hq i hi).1 j hj)
    · obtain ⟨i, hi, rfl⟩ := List.getElem_of_mem hq'
      exact (hq i hi).2

set_option maxRecDepth 100000 in
/-- An api.Opt as it comes in. -/
theorem open_opt {r : Reach} {b0 : Nat} {v : Value} {d : DataW H} {p : List MemPlace} (hval : Value.okWide Try.prog W r b0 24 v) (h0 : DataW.Trod enc Try.prog W 0 (fun _ => true) true 24 v d p) (hw : (d.weights Try.prog 24).all (· ≤ reachBytes) = true) :
    ∃ (o : Ot) (v' : Value), v = .agg (optC o v') ∧ ORow W v' o.os ∧ o.os.length * 24 ≤ far := by
  obtain ⟨cs, rfl, hsz⟩ := okWide_struct Try.underlying24 hval
  obtain ⟨fuel, hf⟩ := h0
  obtain ⟨xs, n, _, hx, hl, hlen, hfs⟩ := DataW.trod_struct Try.underlying24 hf
  obtain ⟨l, rfl⟩ : ∃ l : List Value, cs = l.toArray := ⟨cs.toList, by simp⟩
  have hl6 : l.length = 6 := by rw [opt_cellsOf] at hsz; simpa using hsz
  match l, hl6 with
  | [c0, c1, c2, c3, c4, c5], _ =>
  match xs, hlen with
  | [y0, y1, y2, y3, y4, y5], _ =>
    have t0 := hfs 0 _ rfl
    have t1 := hfs 1 _ rfl
    have t2 := hfs 2 _ rfl
    have t3 := hfs 3 _ rfl
    have t4 := hfs 4 _ rfl
    have t5 := hfs 5 _ rfl
    simp [bool_cells, int_cells, os_cellsOf, Value.cells] at t0 t1 t2 t3 t4 t5
    obtain ⟨s, e0, _, _⟩ := DataW.trod_int Try.underlying3 t0
    obtain ⟨e, e1, _, _⟩ := DataW.trod_int Try.underlying3 t1
    obtain ⟨vv, e2, _, _⟩ := DataW.trod_int Try.underlying3 t2
    obtain ⟨b, e3, _⟩ := DataW.trod_bool Try.underlying4 t3
    obtain ⟨z, e4, _, _⟩ := DataW.trod_int Try.underlying3 t4
    simp at e0 e1 e2 e3 e4
    have hd : d = .agg [y0.1, y1.1, y2.1, y3.1, y4.1, y5.1] := by
      have := congrArg Prod.fst hx
      simpa using this
    rw [hd] at hw
    have hw' : (DataW.weightsEach Try.prog [3, 3, 3, 4, 3, 22] [y0.1, y1.1, y2.1, y3.1, y4.1, y5.1]).all (· ≤ reachBytes) = true := by
      rw [← hw]
      unfold DataW.weights
      rw [Try.underlying24]
      rfl
    obtain ⟨os, ho, hn⟩ := open_orow t5 (weights_all hw' (j := 5) rfl rfl)
    subst e0 e1 e2 e3 e4
    exact ⟨⟨s, e, vv, b, z, os⟩, c5, rfl, ho, hn⟩

end

end Go.Proofs.Ytfhaogacblnnnaa
