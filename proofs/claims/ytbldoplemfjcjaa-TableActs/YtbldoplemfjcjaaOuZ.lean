/- A row of acts on a Table as it comes in, with how far its texts reach. -/
import Derived.Test.YtbldoplemfjcjaaOuQ
namespace Go.Proofs.Ytbldoplemfjcjaa
open Go.ChangeShapes Go.WideShapes Go.ChangeAt Go.RowKit
namespace Ou

theorem weights_inO {H : Type} {P : Program} {e : TypeId} {d : DataW H} {n : Nat} : ∀ {l : List (DataW H)}, d ∈ l → n ∈ d.weights P e → n ∈ DataW.weightsAll P e l := by
  intro l
  induction l with
  | nil => intro h; simp at h
  | cons a l ih =>
    intro h hn
    simp only [DataW.weightsAll, List.mem_append]
    rcases List.mem_cons.1 h with rfl | h
    · exact .inl hn
    · exact .inr (ih h hn)
theorem ta_cells : Try.prog.cellsOf 39 = 13 := by kernel_rfl
theorem ta_asked : Try.prog.cellsOf 35 = 8 := by kernel_rfl
theorem ta_step : Try.prog.cellsOf 33 = 2 := by kernel_rfl
theorem ta_quest : Try.prog.cellsOf 37 = 3 := by kernel_rfl
theorem ta_cells9 : Try.prog.cellsOf 9 = 1 := by kernel_rfl
theorem ta_cells3 : Try.prog.cellsOf 3 = 1 := by kernel_rfl
/-- An act: its kind, what is asked, a question, a tick. -/
structure Ta where
  kd : Int
  x : Ak
  qn : ByteArray
  qt : Int
  qc : Int
  now : Int
def taV (p : Ta) : List Value := [.int .i64 p.kd, .int .i64 p.x.j, .int .i64 p.x.i, .int .i64 p.x.a, .string p.x.c, .string p.x.g, .string p.x.n, .int .i64 p.x.t, .int .i64 p.x.u, .string p.qn, .int .i64 p.qt, .int .i64 p.qc, .int .i64 p.now]
def taC (ps : List Ta) : List Value := ps.flatMap taV
theorem taC_at {xs : List Ta} {k : Nat} (hk : k < xs.length) (i : Nat) (hi : i < 13) : (taC xs)[k * 13 + i]? = (taV xs[k])[i]? := flat_get (f := taV) (z := 13) (fun _ => rfl) xs k hk i hi
structure TaOk (p : Ta) : Prop where
  far : Far p.x
  nam : p.qn.size ≤ maxLen
  wa : (Lit.int .i64 p.x.a).wf = true
  wi : (Lit.int .i64 p.x.i).wf = true
  wt : (Lit.int .i64 p.qt).wf = true
  wc : (Lit.int .i64 p.qc).wf = true
theorem TaOk.key {p : Ta} (h : TaOk p) : OkK (keyQ p.x.a p.x.i p.qn p.qt p.qc) := ⟨h.wa, h.wi, by have := fdO_size p.qn; have := h.nam; show (fdO p.qn).size ≤ maxLen; omega, h.wt, h.wc⟩

section
variable {H : Type} {enc : TypeId × Value → H} {W : World}
set_option maxRecDepth 100000 in
set_option maxHeartbeats 2000000 in
theorem open_tacts {r : Reach} {b0 : Nat} {c : Value} {d : DataW H} {p : List MemPlace} (hval : Value.okWide Try.prog W r b0 22 c) (h0 : DataW.Trod enc Try.prog W 0 (fun _ => true) true 22 c d p) (hw : (d.weights Try.prog 22).all (· ≤ reachBytes) = true) :
    ∃ rs : List Ta, Row W c rs.length (taC rs) ∧ rs.length ≤ maxLen ∧ ∀ r ∈ rs, TaOk r := by
  obtain ⟨x0, len0, cap0, rfl⟩ := okWide_slice Try.underlying22 hval
  obtain ⟨fuel, hf⟩ := h0
  have h : DataW.trod enc Try.prog W 0 (fun _ => true) true fuel 22 [.slice x0 len0 cap0] = some (d, p) := by simpa [Value.cells] using hf
  rcases DataW.trod_slice Try.underlying22 h with ⟨h0, _⟩ | ⟨a, len, cap, elems, rest, n, _, hcs, hx, _, hlc, hcm, hlen, hel, _, _⟩
  · simp at h0
    obtain ⟨rfl, rfl, rfl⟩ := h0
    exact ⟨[], Row.nil W _, Nat.zero_le _, fun r h => by simp at h⟩
  · simp at hcs
    obtain ⟨rfl, rfl, rfl⟩ := hcs
    have hd0 : d = .slice (elems.map (·.1)) (rest.map (·.1)) := by have := congrArg Prod.fst hx; simpa using this
    rw [hd0] at hw
    have hwa : ∀ y ∈ elems, (y.1.weights Try.prog 39).all (· ≤ reachBytes) = true := fun y hy => List.all_eq_true.2 fun k hk => List.all_eq_true.1 hw k (by
      simp only [DataW.weights, Try.underlying22, List.mem_cons, List.mem_append]
      exact .inr (.inl (weights_inO (List.mem_map_of_mem hy) hk)))
    have each : ∀ i, i < len0 → ∃ r : Ta, (∀ j, j < 13 → W.cell? ((a.add (i * 13)).add j) = (taV r)[j]?) ∧ TaOk r := by
      intro i hi
      have hb := hel i hi
      rw [ta_cells] at hb
      have hs : elems[i]? = some elems[i] := List.getElem?_eq_getElem (by omega)
      have hm : elems[i] ∈ elems := List.getElem_mem _
      rw [hs, Option.bind_eq_some_iff] at hb
      obtain ⟨cs, hcs, hy⟩ := hb
      obtain ⟨_, hcl, hcell⟩ := World.cells?_some hcs
      have hwi := hwa _ hm
      obtain ⟨xs, k, _, hxx, _, hxl, hf⟩ := DataW.trod_struct Try.underlying39 hy
      match xs, hxl, cs, hcl, hcell, hf, hxx with
      | [y0, y1, y2, y3], _, [c0, c1, c2, c3, c4, c5, c6, c7, c8, c9, c10, c11, c12], _, hcell, hf, hxx =>
        have t0 := hf 0 _ rfl
        have t1 := hf 1 _ rfl
        have t2 := hf 2 _ rfl
        have t3 := hf 3 _ rfl
        simp [ta_cells3, ta_asked, ta_quest] at t0 t1 t2 t3
        obtain ⟨s0, e0, _, _⟩ := DataW.trod_int Try.underlying3 t0
        obtain ⟨s12, e12, _, _⟩ := DataW.trod_int Try.underlying3 t3
        simp at e0 e12
        have hd : elems[i].1 = .agg [y0.1, y1.1, y2.1, y3.1] := by
          have := congrArg Prod.fst hxx
          simpa using this
        rw [hd] at hwi
        have hw' : (DataW.weightsEach Try.prog [3, 35, 37, 3] [y0.1, y1.1, y2.1, y3.1]).all (· ≤ reachBytes) = true := by
          rw [← hwi]
          unfold DataW.weights
          rw [Try.underlying39]
          rfl
        have hwe := weights_all hw' (j := 1) rfl rfl
        obtain ⟨us, k1, _, hux, _, hul, hu⟩ := DataW.trod_struct Try.underlying35 t1
        obtain ⟨ps, k2, _, hpx, _, hpl, hp⟩ := DataW.trod_struct Try.underlying37 t2
        match us, hul, hu, hux, ps, hpl, hp with
        | [v0, v1, v2, v3, v4, v5, v6], _, hu, hux, [q0, q1, q2], _, hp =>
          have u0 := hu 0 _ rfl
          have u1 := hu 1 _ rfl
          have u2 := hu 2 _ rfl
          have u3 := hu 3 _ rfl
          have u4 := hu 4 _ rfl
          have u5 := hu 5 _ rfl
          have u6 := hu 6 _ rfl
          have p0 := hp 0 _ rfl
          have p1 := hp 1 _ rfl
          have p2 := hp 2 _ rfl
          simp [ta_cells9, ta_cells3, ta_step] at u0 u1 u2 u3 u4 u5 u6 p0 p1 p2
          have hde : y1.1 = .agg [v0.1, v1.1, v2.1, v3.1, v4.1, v5.1, v6.1] := by
            have := congrArg Prod.fst hux
            simpa using this
          rw [hde] at hwe
          have hwe' : (DataW.weightsEach Try.prog [3, 3, 3, 9, 9, 33, 3] [v0.1, v1.1, v2.1, v3.1, v4.1, v5.1, v6.1]).all (· ≤ reachBytes) = true := by
            rw [← hwe]
            unfold DataW.weights
            rw [Try.underlying35]
            rfl
          have hws := weights_all hwe' (j := 5) rfl rfl
          obtain ⟨ss, k3, _, hsx, _, hsl, hss⟩ := DataW.trod_struct Try.underlying33 u5
          match ss, hsl, hss, hsx with
          | [st0, st1], _, hss, hsx =>
            have n0 := hss 0 _ rfl
            have n1 := hss 1 _ rfl
            simp [ta_cells9, ta_cells3] at n0 n1
            have hdf : v5.1 = .agg [st0.1, st1.1] := by
              have := congrArg Prod.fst hsx
              simpa using this
            rw [hdf] at hws
            have hws' : (DataW.weightsEach Try.prog [9, 3] [st0.1, st1.1]).all (· ≤ reachBytes) = true := by
              rw [← hws]
              unfold DataW.weights
              rw [Try.underlying33]
              rfl
            obtain ⟨s1, e1, _, _⟩ := DataW.trod_int Try.underlying3 u0
            obtain ⟨s2, e2, _, wf2⟩ := DataW.trod_int Try.underlying3 u1
            obtain ⟨s3, e3, _, wf3⟩ := DataW.trod_int Try.underlying3 u2
            obtain ⟨s4, e4, z4, _⟩ := DataW.trod_string Try.underlying9 u3
            obtain ⟨s5, e5, z5, _⟩ := DataW.trod_string Try.underlying9 u4
            obtain ⟨s6, e6, z6, _⟩ := DataW.trod_string Try.underlying9 n0
            obtain ⟨s7, e7, _, _⟩ := DataW.trod_int Try.underlying3 n1
            obtain ⟨s8, e8, _, _⟩ := DataW.trod_int Try.underlying3 u6
            obtain ⟨s9, e9, _, z9⟩ := DataW.trod_string Try.underlying9 p0
            obtain ⟨s10, e10, _, wf10⟩ := DataW.trod_int Try.underlying3 p1
            obtain ⟨s11, e11, _, wf11⟩ := DataW.trod_int Try.underlying3 p2
            simp at e1 e2 e3 e4 e5 e6 e7 e8 e9 e10 e11
            have h4 := sized_string hwe' (j := 3) (t := 9) (bytes := s4.data.toList) rfl (by rw [z4]; rfl)
            have h5 := sized_string hwe' (j := 4) (t := 9) (bytes := s5.data.toList) rfl (by rw [z5]; rfl)
            have h6 := sized_string hws' (j := 0) (t := 9) (bytes := s6.data.toList) rfl (by rw [z6]; rfl)
            rw [data_len] at h4 h5 h6
            unfold reachBytes at h4 h5 h6
            refine ⟨⟨s0, ⟨s1, s2, s3, s4, s5, s6, s7, s8⟩, s9, s10, s11, s12⟩, fun j hj => ?_, ⟨⟨by show s4.size ≤ _; omega, by show s5.size ≤ _; omega, by show s6.size ≤ _; omega⟩, z9, wf3, wf2, wf10, wf11⟩⟩
            have := hcell j (by simpa using hj)
            rw [this]
            subst e0 e1 e2 e3 e4 e5 e6 e7 e8 e9 e10 e11 e12
            rfl
    obtain ⟨rs, hl, hq⟩ := list_of len0 each
    refine ⟨rs, ?_, by rw [hl]; omega, fun r hr => ?_⟩
    · rw [hl]
      exact row_of (f := taV) (z := 13) (fun _ => rfl) (by decide) hl (fun i hi j hj => (hq i hi).1 j hj)
    · obtain ⟨i, hi, rfl⟩ := List.getElem_of_mem hr
      exact (hq i (by omega)).2
end

end Ou
end Go.Proofs.Ytbldoplemfjcjaa
