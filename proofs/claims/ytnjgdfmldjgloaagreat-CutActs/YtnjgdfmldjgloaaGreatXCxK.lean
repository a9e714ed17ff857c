/- Hints and acts on a Cuts as they come in, with how far they reach. -/
import Derived.Test.YtnjgdfmldjgloaaGreatXCtB
namespace Go.Proofs.YtnjgdfmldjgloaaGreat
open Go.ChangeShapes Go.WideShapes Go.ChangeAt Go.RowKit
namespace Cu

theorem weights_inC {H : Type} {P : Program} {e : TypeId} {d : DataW H} {n : Nat} : ∀ {l : List (DataW H)}, d ∈ l → n ∈ d.weights P e → n ∈ DataW.weightsAll P e l := by
  intro l
  induction l with
  | nil => intro h; simp at h
  | cons a l ih =>
    intro h hn
    simp only [DataW.weightsAll, List.mem_append]
    rcases List.mem_cons.1 h with rfl | h
    · exact .inl hn
    · exact .inr (ih h hn)
theorem strC_bytes : Tryz.prog.bytesOf 9 = 16 := by kernel_rfl
theorem bind_bytes : Tryz.prog.bytesOf 65 = 64 := by kernel_rfl
theorem hint_bytes : Tryz.prog.bytesOf 56 = 24 := by kernel_rfl
theorem hint_cells : Tryz.prog.cellsOf 56 = 2 := by kernel_rfl
/-- What acts reach. -/
structure CaFar (p : Ca) : Prop where
  hl : p.d.hs.length ≤ 8796093022000
  gl : p.d.gl.length ≤ 2199023255490
  hs : ∀ d ∈ p.d.hs, d.size ≤ 140737488351232

section
variable {H : Type} {enc : TypeId × Value → H} {W : World}
set_option maxRecDepth 20000 in
theorem open_tfarC {fuel : Nat} {c : Value} {x : DataW H × List MemPlace} (h : DataW.trod enc Tryz.prog W 0 (fun _ => true) true fuel 36 [c] = some x) (hw : (x.1.weights Tryz.prog 36).all (· ≤ reachBytes) = true) :
    ∃ ds : List ByteArray, Row W c ds.length (tC ds) ∧ (∃ y k, c = .slice y ds.length k ∧ ds.length ≤ k) ∧ ds.length ≤ 8796093022000 ∧ ∀ d ∈ ds, d.size ≤ 140737488351232 := by
  rcases open_strings Tryz.underlying36 Tryz.underlying9 (by kernel_rfl) h with ⟨hcs, _⟩ | ⟨a, len', cap', ss, hcs, _, hl, hm, hz, hx, hcell, hws⟩
  · simp at hcs
    subst hcs
    exact ⟨[], Row.nil W _, ⟨none, 0, rfl, Nat.le_refl _⟩, by simp, fun d hd => by simp at hd⟩
  · simp at hcs
    subst hcs
    rw [if_pos rfl] at hz
    have hlen : (ss.take len').length = len' := by rw [List.length_take]; omega
    rw [hx] at hw
    refine ⟨ss.take len', ?_, ⟨some a, cap', by rw [hlen], by rw [hlen]; exact hl⟩, ?_, fun d hd => ?_⟩
    · rw [tC_rows, hlen]
      refine row_of (f := fun s => [Value.string s]) (z := 1) (fun _ => rfl) (by decide) hlen (fun i hi j hj => ?_)
      obtain rfl : j = 0 := by omega
      rw [hlen] at hi
      have h1 := hcell i (by omega)
      have h2 : ((a.add (i * 1)).add 0) = a.add i := by rw [Nat.mul_one]; unfold Addr.add; split <;> simp_all
      rw [h2, h1]
      simp [List.getElem?_eq_getElem (show i < ss.length by omega)]
    · have := List.all_eq_true.1 hw (((strs (H := H) (ss.take len')).length + (strs (H := H) (ss.drop len')).length) * Tryz.prog.bytesOf 9) (by simp [DataW.weights, Tryz.underlying36])
      simp only [decide_eq_true_eq] at this
      rw [strC_bytes] at this
      unfold strs at this
      rw [List.length_map] at this
      unfold reachBytes at this
      omega
    · have hm : (DataW.lit (Lit.string d.data.toList) : DataW H) ∈ strs (H := H) (ss.take len') := List.mem_map.2 ⟨d, hd, rfl⟩
      have := List.all_eq_true.1 hw d.data.toList.length (by
        simp only [DataW.weights, Tryz.underlying36, List.mem_cons, List.mem_append]
        exact .inr (.inl (weights_inC hm (by simp [DataW.weights]))))
      simp only [decide_eq_true_eq] at this
      rw [data_len] at this
      unfold reachBytes at this
      omega
set_option maxRecDepth 20000 in
theorem open_bfarC {fuel : Nat} {c : Value} {x : DataW H × List MemPlace} (h : DataW.trod enc Tryz.prog W 0 (fun _ => true) true fuel 37 [c] = some x) (hw : (x.1.weights Tryz.prog 37).all (· ≤ reachBytes) = true) :
    ∃ bs : List Bn, Row W c bs.length (bC bs) ∧ bs.length ≤ 2199023255490 ∧ ∀ b ∈ bs, b.h.size ≤ maxLen := by
  rcases DataW.trod_slice Tryz.underlying37 h with ⟨h0, _⟩ | ⟨a, len, cap, elems, rest, n, _, hcs, hx, _, hlc, hcm, hlen, hel, _, _⟩
  · simp at h0
    subst h0
    exact ⟨[], Row.nil W _, by simp, fun r h => by simp at h⟩
  · simp at hcs
    subst hcs
    have hd0 : x.1 = .slice (elems.map (·.1)) (rest.map (·.1)) := by have := congrArg Prod.fst hx; simpa using this
    rw [hd0] at hw
    have hwl : len * 64 ≤ 140737488351232 := by
      have := List.all_eq_true.1 hw ((elems.length + rest.length) * Tryz.prog.bytesOf 65) (by simp [DataW.weights, Tryz.underlying37])
      simp only [decide_eq_true_eq] at this
      rw [bind_bytes] at this
      unfold reachBytes at this
      omega
    have each : ∀ i, i < len → ∃ r : Bn, (∀ j, j < 5 → W.cell? ((a.add (i * 5)).add j) = (bV r)[j]?) ∧ r.h.size ≤ maxLen := by
      intro i hi
      have hb := hel i hi
      rw [ca_bind] at hb
      have hs : elems[i]? = some elems[i] := List.getElem?_eq_getElem (by omega)
      rw [hs, Option.bind_eq_some_iff] at hb
      obtain ⟨cs, hcs, hy⟩ := hb
      obtain ⟨_, hcl, hcell⟩ := World.cells?_some hcs
      obtain ⟨xs, k, _, hxx, _, hxl, hf⟩ := DataW.trod_struct Tryz.underlying65 hy
      match xs, hxl, cs, hcl, hcell, hf, hxx with
      | [y0, y1, y2, y3, y4], _, [c0, c1, c2, c3, c4], _, hcell, hf, hxx =>
        have t0 := hf 0 _ rfl
        have t1 := hf 1 _ rfl
        have t2 := hf 2 _ rfl
        have t3 := hf 3 _ rfl
        have t4 := hf 4 _ rfl
        simp [ca_cells9, ca_cells3] at t0 t1 t2 t3 t4
        obtain ⟨s0, e0, _, _⟩ := DataW.trod_string Tryz.underlying9 t0
        obtain ⟨s1, e1, _, z1⟩ := DataW.trod_string Tryz.underlying9 t1
        obtain ⟨s2, e2, _, _⟩ := DataW.trod_int Tryz.underlying3 t2
        obtain ⟨s3, e3, _, _⟩ := DataW.trod_string Tryz.underlying9 t3
        obtain ⟨s4, e4, _, _⟩ := DataW.trod_int Tryz.underlying3 t4
        simp at e0 e1 e2 e3 e4
        refine ⟨⟨s0, s1, s2, s3, s4⟩, fun j hj => ?_, z1⟩
        have := hcell j (by simpa using hj)
        rw [this]
        subst e0 e1 e2 e3 e4
        rfl
    obtain ⟨rs, hl, hq⟩ := list_of len each
    refine ⟨rs, ?_, by omega, fun r hr => ?_⟩
    · rw [hl]
      exact row_of (f := bV) (z := 5) (fun _ => rfl) (by decide) hl (fun i hi j hj => (hq i hi).1 j hj)
    · obtain ⟨i, hi, rfl⟩ := List.getElem_of_mem hr
      exact (hq i (by omega)).2
set_option maxRecDepth 20000 in
theorem open_hints {r : Reach} {b0 : Nat} {c : Value} {d : DataW H} {p : List MemPlace} (hval : Value.okWide Tryz.prog W r b0 22 c) (h0 : DataW.Trod enc Tryz.prog W 0 (fun _ => true) true 22 c d p) (hw : (d.weights Tryz.prog 22).all (· ≤ reachBytes) = true) :
    ∃ rs : List Hn, Row W c rs.length (hnC rs) ∧ rs.length ≤ 5864062014640 ∧ ∀ r ∈ rs, r.h.size ≤ maxLen := by
  obtain ⟨x0, len0, cap0, rfl⟩ := okWide_slice Tryz.underlying22 hval
  obtain ⟨fuel, hf⟩ := h0
  have h : DataW.trod enc Tryz.prog W 0 (fun _ => true) true fuel 22 [.slice x0 len0 cap0] = some (d, p) := by simpa [Value.cells] using hf
  rcases DataW.trod_slice Tryz.underlying22 h with ⟨h0, _⟩ | ⟨a, len, cap, elems, rest, n, _, hcs, hx, _, hlc, hcm, hlen, hel, _, _⟩
  · simp at h0
    obtain ⟨rfl, rfl, rfl⟩ := h0
    exact ⟨[], Row.nil W _, by simp, fun r h => by simp at h⟩
  · simp at hcs
    obtain ⟨rfl, rfl, rfl⟩ := hcs
    have hd0 : d = .slice (elems.map (·.1)) (rest.map (·.1)) := by have := congrArg Prod.fst hx; simpa using this
    rw [hd0] at hw
    have hwl : len0 * 24 ≤ 140737488351232 := by
      have := List.all_eq_true.1 hw ((elems.length + rest.length) * Tryz.prog.bytesOf 56) (by simp [DataW.weights, Tryz.underlying22])
      simp only [decide_eq_true_eq] at this
      rw [hint_bytes] at this
      unfold reachBytes at this
      omega
    have each : ∀ i, i < len0 → ∃ r : Hn, (∀ j, j < 2 → W.cell? ((a.add (i * 2)).add j) = (hnV r)[j]?) ∧ r.h.size ≤ maxLen := by
      intro i hi
      have hb := hel i hi
      rw [hint_cells] at hb
      have hs : elems[i]? = some elems[i] := List.getElem?_eq_getElem (by omega)
      rw [hs, Option.bind_eq_some_iff] at hb
      obtain ⟨cs, hcs, hy⟩ := hb
      obtain ⟨_, hcl, hcell⟩ := World.cells?_some hcs
      obtain ⟨xs, k, _, hxx, _, hxl, hf⟩ := DataW.trod_struct Tryz.underlying56 hy
      match xs, hxl, cs, hcl, hcell, hf, hxx with
      | [y0, y1], _, [c0, c1], _, hcell, hf, hxx =>
        have t0 := hf 0 _ rfl
        have t1 := hf 1 _ rfl
        simp [ca_cells9, ca_cells3] at t0 t1
        obtain ⟨s0, e0, _, z0⟩ := DataW.trod_string Tryz.underlying9 t0
        obtain ⟨s1, e1, _, _⟩ := DataW.trod_int Tryz.underlying3 t1
        simp at e0 e1
        refine ⟨⟨s0, s1⟩, fun j hj => ?_, z0⟩
        have := hcell j (by simpa using hj)
        rw [this]
        subst e0 e1
        rfl
    obtain ⟨rs, hl, hq⟩ := list_of len0 each
    refine ⟨rs, ?_, by omega, fun r hr => ?_⟩
    · rw [hl]
      exact row_of (f := hnV) (z := 2) (fun _ => rfl) (by decide) hl (fun i hi j hj => (hq i hi).1 j hj)
    · obtain ⟨i, hi, rfl⟩ := List.getElem_of_mem hr
      exact (hq i (by omega)).2
set_option maxRecDepth 20000 in
theorem open_cactsF {r : Reach} {b0 : Nat} {c : Value} {d : DataW H} {p : List MemPlace} (hval : Value.okWide Tryz.prog W r b0 23 c) (h0 : DataW.Trod enc Tryz.prog W 0 (fun _ => true) true 23 c d p) (hw : (d.weights Tryz.prog 23).all (· ≤ reachBytes) = true) :
    ∃ rs : List Ca, Row W c rs.length (caC rs) ∧ rs.length ≤ maxLen ∧ ∀ r ∈ rs, CaOk W r ∧ CaFar r := by
  obtain ⟨x0, len0, cap0, rfl⟩ := okWide_slice Tryz.underlying23 hval
  obtain ⟨fuel, hf⟩ := h0
  have h : DataW.trod enc Tryz.prog W 0 (fun _ => true) true fuel 23 [.slice x0 len0 cap0] = some (d, p) := by simpa [Value.cells] using hf
  rcases DataW.trod_slice Tryz.underlying23 h with ⟨h0, _⟩ | ⟨a, len, cap, elems, rest, n, _, hcs, hx, _, hlc, hcm, hlen, hel, _, _⟩
  · simp at h0
    obtain ⟨rfl, rfl, rfl⟩ := h0
    exact ⟨[], Row.nil W _, Nat.zero_le _, fun r h => by simp at h⟩
  · simp at hcs
    obtain ⟨rfl, rfl, rfl⟩ := hcs
    have hd0 : d = .slice (elems.map (·.1)) (rest.map (·.1)) := by have := congrArg Prod.fst hx; simpa using this
    rw [hd0] at hw
    have hwa : ∀ y ∈ elems, (y.1.weights Tryz.prog 41).all (· ≤ reachBytes) = true := fun y hy => List.all_eq_true.2 fun k hk => List.all_eq_true.1 hw k (by
      simp only [DataW.weights, Tryz.underlying23, List.mem_cons, List.mem_append]
      exact .inr (.inl (weights_inC (List.mem_map_of_mem hy) hk)))
    have each : ∀ i, i < len0 → ∃ r : Ca, (∀ j, j < 11 → W.cell? ((a.add (i * 11)).add j) = (caV r)[j]?) ∧ CaOk W r ∧ CaFar r := by
      intro i hi
      have hb := hel i hi
      rw [ca_cells] at hb
      have hs : elems[i]? = some elems[i] := List.getElem?_eq_getElem (by omega)
      have hm : elems[i] ∈ elems := List.getElem_mem _
      rw [hs, Option.bind_eq_some_iff] at hb
      obtain ⟨cs, hcs, hy⟩ := hb
      obtain ⟨_, hcl, hcell⟩ := World.cells?_some hcs
      have hwi := hwa _ hm
      obtain ⟨xs, k, _, hxx, _, hxl, hf⟩ := DataW.trod_struct Tryz.underlying41 hy
      match xs, hxl, cs, hcl, hcell, hf, hxx with
      | [y0, y1, y2, y3, y4, y5, y6, y7], _, [c0, c1, c2, c3, c4, c5, c6, c7, c8, c9, c10], _, hcell, hf, hxx =>
        have t0 := hf 0 _ rfl
        have t1 := hf 1 _ rfl
        have t2 := hf 2 _ rfl
        have t3 := hf 3 _ rfl
        have t4 := hf 4 _ rfl
        have t5 := hf 5 _ rfl
        have t6 := hf 6 _ rfl
        have t7 := hf 7 _ rfl
        simp [ca_cells9, ca_cells3, ca_deleg] at t0 t1 t2 t3 t4 t5 t6 t7
        obtain ⟨s0, e0, _, _⟩ := DataW.trod_int Tryz.underlying3 t0
        obtain ⟨s2, e2, _, z2⟩ := DataW.trod_string Tryz.underlying9 t2
        obtain ⟨s3, e3, _, _⟩ := DataW.trod_int Tryz.underlying3 t3
        obtain ⟨s4, e4, _, z4⟩ := DataW.trod_string Tryz.underlying9 t4
        obtain ⟨s5, e5, _, _⟩ := DataW.trod_int Tryz.underlying3 t5
        obtain ⟨s6, e6, _, _⟩ := DataW.trod_int Tryz.underlying3 t6
        obtain ⟨s7, e7, _, z7⟩ := DataW.trod_string Tryz.underlying9 t7
        simp at e0 e2 e3 e4 e5 e6 e7
        have hd : elems[i].1 = .agg [y0.1, y1.1, y2.1, y3.1, y4.1, y5.1, y6.1, y7.1] := by
          have := congrArg Prod.fst hxx
          simpa using this
        rw [hd] at hwi
        have hw' : (DataW.weightsEach Tryz.prog [3, 39, 9, 3, 9, 3, 3, 9] [y0.1, y1.1, y2.1, y3.1, y4.1, y5.1, y6.1, y7.1]).all (· ≤ reachBytes) = true := by
          rw [← hwi]
          unfold DataW.weights
          rw [Tryz.underlying41]
          rfl
        have hwe := weights_all hw' (j := 1) rfl rfl
        obtain ⟨us, k1, _, hux, _, hul, hu⟩ := DataW.trod_struct Tryz.underlying39 t1
        match us, hul, hu, hux with
        | [v0, v1, v2, v3], _, hu, hux =>
          have u0 := hu 0 _ rfl
          have u1 := hu 1 _ rfl
          have u2 := hu 2 _ rfl
          have u3 := hu 3 _ rfl
          simp [ca_cells9, ca_cells3, ca_cellsT, ca_cellsB] at u0 u1 u2 u3
          have hde : y1.1 = .agg [v0.1, v1.1, v2.1, v3.1] := by
            have := congrArg Prod.fst hux
            simpa using this
          rw [hde] at hwe
          have hwe' : (DataW.weightsEach Tryz.prog [9, 36, 37, 3] [v0.1, v1.1, v2.1, v3.1]).all (· ≤ reachBytes) = true := by
            rw [← hwe]
            unfold DataW.weights
            rw [Tryz.underlying39]
            rfl
          obtain ⟨r0, f0, _, g0⟩ := DataW.trod_string Tryz.underlying9 u0
          obtain ⟨hs, hrow, hcap, hlen1, hsz1⟩ := open_tfarC u1 (weights_all hwe' (j := 1) rfl rfl)
          obtain ⟨bs, brow, blen, bsz⟩ := open_bfarC u2 (weights_all hwe' (j := 2) rfl rfl)
          obtain ⟨r3, f3, _, _⟩ := DataW.trod_int Tryz.underlying3 u3
          simp at f0 f3
          refine ⟨⟨s0, ⟨r0, hs, bs, r3⟩, c2, c3, s2, s3, s4, s5, s6, s7⟩, fun j hj => ?_, ⟨⟨hrow, hcap, brow, Nat.le_trans hlen1 (by decide), Nat.le_trans blen (by decide), g0, fun d hd => by have := hsz1 d hd; unfold maxLen; omega, bsz⟩, z2, z4, z7⟩, ⟨hlen1, blen, hsz1⟩⟩
          have := hcell j (by simpa using hj)
          rw [this]
          subst e0 e2 e3 e4 e5 e6 e7 f0 f3
          rfl
    obtain ⟨rs, hl, hq⟩ := list_of len0 each
    refine ⟨rs, ?_, by rw [hl]; omega, fun r hr => ?_⟩
    · rw [hl]
      exact row_of (f := caV) (z := 11) (fun _ => rfl) (by decide) hl (fun i hi j hj => (hq i hi).1 j hj)
    · obtain ⟨i, hi, rfl⟩ := List.getElem_of_mem hr
      exact (hq i (by omega)).2
end

end Cu
end Go.Proofs.YtnjgdfmldjgloaaGreat
