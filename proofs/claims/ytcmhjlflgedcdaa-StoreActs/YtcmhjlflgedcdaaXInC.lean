/- A row of acts as it comes in: a Put at a tick, then a Get. -/
import Derived.Test.YtcmhjlflgedcdaaXInB
import Derived.Test.YtcmhjlflgedcdaaXP2
namespace Go.Proofs.Ytcmhjlflgedcdaa
open Go.ChangeShapes Go.WideShapes Go.ChangeAt Go.RowKit

theorem weights_inM {H : Type} {P : Program} {e : TypeId} {d : DataW H} {n : Nat} : ∀ {l : List (DataW H)}, d ∈ l → n ∈ d.weights P e → n ∈ DataW.weightsAll P e l := by
  intro l
  induction l with
  | nil => intro h; simp at h
  | cons a l ih =>
    intro h hn
    simp only [DataW.weightsAll, List.mem_append]
    rcases List.mem_cons.1 h with rfl | h
    · exact .inl hn
    · exact .inr (ih h hn)
theorem str_bytesA : Try.prog.bytesOf 9 = 16 := by kernel_rfl
theorem act_bytes : Try.prog.bytesOf 38 = 104 := by kernel_rfl
theorem act_cells : Try.prog.cellsOf 38 = 9 := by kernel_rfl
theorem ent_cells : Try.prog.cellsOf 36 = 6 := by kernel_rfl
theorem setA_cells : Try.prog.cellsOf 34 = 4 := by kernel_rfl
theorem txt_cells : Try.prog.cellsOf 32 = 1 := by kernel_rfl

/-- An act: what is put and its texts' row, the tick, what is asked for. -/
structure Ac where
  e : En
  d : Value
  now : Int
  n : ByteArray
  t : Int
def acV (p : Ac) : List Value := [.string p.e.n, .int .i64 p.e.t, .int .i64 p.e.l, p.d, .int .i64 p.e.r, .int .i64 p.e.u, .int .i64 p.now, .string p.n, .int .i64 p.t]
def acC (ps : List Ac) : List Value := ps.flatMap acV
theorem acC_at {xs : List Ac} {k : Nat} (hk : k < xs.length) (i : Nat) (hi : i < 9) : (acC xs)[k * 9 + i]? = (acV xs[k])[i]? := flat_get (f := acV) (z := 9) (fun _ => rfl) xs k hk i hi
structure AcOk (W : World) (p : Ac) : Prop where
  row : Row W p.d p.e.ds.length (tC p.e.ds)
  len : p.e.ds.length ≤ 8796093022000
  siz : ∀ d ∈ p.e.ds, d.size ≤ 140737488351232
  nam : p.e.n.size ≤ maxLen
  ask : p.n.size ≤ maxLen
  typ : (Lit.int .i64 p.t).wf = true
theorem AcOk.below {w w' : World} {p : Ac} (h : AcOk w p) (hb : Below w.heap.size w w') : AcOk w' p := ⟨h.row.below hb, h.len, h.siz, h.nam, h.ask, h.typ⟩

section
variable {H : Type} {enc : TypeId × Value → H} {W : World}
set_option maxRecDepth 20000 in
/-- A row of texts, with how far it and they reach. -/
theorem open_tfar {fuel : Nat} {c : Value} {x : DataW H × List MemPlace} (h : DataW.trod enc Try.prog W 0 (fun _ => true) true fuel 32 [c] = some x) (hw : (x.1.weights Try.prog 32).all (· ≤ reachBytes) = true) : ∃ ds : List ByteArray, Row W c ds.length (tC ds) ∧ ds.length ≤ 8796093022000 ∧ ∀ d ∈ ds, d.size ≤ 140737488351232 := by
  rcases open_strings Try.underlying32 Try.underlying9 (by kernel_rfl) h with ⟨hcs, _⟩ | ⟨a, len', cap', ss, hcs, _, hl, hm, hz, hx, hcell, hws⟩
  · simp at hcs
    subst hcs
    exact ⟨[], Row.nil W _, by simp, fun d hd => by simp at hd⟩
  · simp at hcs
    subst hcs
    rw [if_pos rfl] at hz
    have hlen : (ss.take len').length = len' := by rw [List.length_take]; omega
    rw [hx] at hw
    refine ⟨ss.take len', ?_, ?_, fun d hd => ?_⟩
    · rw [tC_flat, hlen]
      refine row_of (f := fun s => [Value.string s]) (z := 1) (fun _ => rfl) (by decide) hlen (fun i hi j hj => ?_)
      obtain rfl : j = 0 := by omega
      rw [hlen] at hi
      have h1 := hcell i (by omega)
      have h2 : ((a.add (i * 1)).add 0) = a.add i := by rw [Nat.mul_one]; unfold Addr.add; split <;> simp_all
      rw [h2, h1]
      simp [List.getElem?_eq_getElem (show i < ss.length by omega)]
    · have := List.all_eq_true.1 hw (((strs (H := H) (ss.take len')).length + (strs (H := H) (ss.drop len')).length) * Try.prog.bytesOf 9) (by simp [DataW.weights, Try.underlying32])
      simp only [decide_eq_true_eq] at this
      rw [str_bytesA] at this
      unfold strs at this
      rw [List.length_map] at this
      unfold reachBytes at this
      omega
    · have hm : (DataW.lit (Lit.string d.data.toList) : DataW H) ∈ strs (H := H) (ss.take len') := List.mem_map.2 ⟨d, hd, rfl⟩
      have := List.all_eq_true.1 hw d.data.toList.length (by
        simp only [DataW.weights, Try.underlying32, List.mem_cons, List.mem_append]
        exact .inr (.inl (weights_inM hm (by simp [DataW.weights]))))
      simp only [decide_eq_true_eq] at this
      rw [data_len] at this
      unfold reachBytes at this
      omega

set_option maxRecDepth 20000 in
theorem open_acts {r : Reach} {b0 : Nat} {c : Value} {d : DataW H} {p : List MemPlace} (hval : Value.okWide Try.prog W r b0 22 c) (h0 : DataW.Trod enc Try.prog W 0 (fun _ => true) true 22 c d p) (hw : (d.weights Try.prog 22).all (· ≤ reachBytes) = true) :
    ∃ rs : List Ac, Row W c rs.length (acC rs) ∧ rs.length ≤ 8796093022000 ∧ ∀ r ∈ rs, AcOk W r := by
  obtain ⟨x0, len0, cap0, rfl⟩ := okWide_slice Try.underlying22 hval
  obtain ⟨fuel, hf⟩ := h0
  have h : DataW.trod enc Try.prog W 0 (fun _ => true) true fuel 22 [.slice x0 len0 cap0] = some (d, p) := by simpa [Value.cells] using hf
  rcases DataW.trod_slice Try.underlying22 h with ⟨h0, _⟩ | ⟨a, len, cap, elems, rest, n, _, hcs, hx, _, hlc, hcm, hlen, hel, _, _⟩
  · simp at h0
    obtain ⟨rfl, rfl, rfl⟩ := h0
    exact ⟨[], Row.nil W _, by simp, fun r h => by simp at h⟩
  · simp at hcs
    obtain ⟨rfl, rfl, rfl⟩ := hcs
    have hd0 : d = .slice (elems.map (·.1)) (rest.map (·.1)) := by have := congrArg Prod.fst hx; simpa using this
    rw [hd0] at hw
    have hwa : ∀ y ∈ elems, (y.1.weights Try.prog 38).all (· ≤ reachBytes) = true := fun y hy => List.all_eq_true.2 fun k hk => List.all_eq_true.1 hw k (by
      simp only [DataW.weights, Try.underlying22, List.mem_cons, List.mem_append]
      exact .inr (.inl (weights_inM (List.mem_map_of_mem hy) hk)))
    have hwl : len0 * 104 ≤ 140737488351232 := by
      have := List.all_eq_true.1 hw ((elems.length + rest.length) * Try.prog.bytesOf 38) (by simp [DataW.weights, Try.underlying22])
      simp only [decide_eq_true_eq] at this
      rw [act_bytes] at this
      unfold reachBytes at this
      omega
    have each : ∀ i, i < len0 → ∃ r : Ac, (∀ j, j < 9 → W.cell? ((a.add (i * 9)).add j) = (acV r)[j]?) ∧ AcOk W r := by
      intro i hi
      have hb := hel i hi
      rw [act_cells] at hb
      have hs : elems[i]? = some elems[i] := List.getElem?_eq_getElem (by omega)
      have hm : elems[i] ∈ elems := List.getElem_mem _
      rw [hs, Option.bind_eq_some_iff] at hb
      obtain ⟨cs, hcs, hy⟩ := hb
      obtain ⟨_, hcl, hcell⟩ := World.cells?_some hcs
      have hwi := hwa _ hm
      obtain ⟨xs, k, _, hxx, _, hxl, hf⟩ := DataW.trod_struct Try.underlying38 hy
      match xs, hxl, cs, hcl, hcell, hf, hxx with
      | [y0, y1, y2, y3], _, [c0, c1, c2, c3, c4, c5, c6, c7, c8], _, hcell, hf, hxx =>
        have t0 := hf 0 _ rfl
        have t1 := hf 1 _ rfl
        have t2 := hf 2 _ rfl
        have t3 := hf 3 _ rfl
        simp [s_cellsOf, int_cells, ent_cells] at t0 t1 t2 t3
        obtain ⟨s1, e1, _, _⟩ := DataW.trod_int Try.underlying3 t1
        obtain ⟨s2, e2, z2, _⟩ := DataW.trod_string Try.underlying9 t2
        obtain ⟨s3, e3, _, wf3⟩ := DataW.trod_int Try.underlying3 t3
        simp at e1 e2 e3
        have hd : elems[i].1 = .agg [y0.1, y1.1, y2.1, y3.1] := by
          have := congrArg Prod.fst hxx
          simpa using this
        rw [hd] at hwi
        have hw' : (DataW.weightsEach Try.prog [36, 3, 9, 3] [y0.1, y1.1, y2.1, y3.1]).all (· ≤ reachBytes) = true := by
          rw [← hwi]
          unfold DataW.weights
          rw [Try.underlying38]
          rfl
        have hz2 := sized_string hw' (j := 2) (t := 9) (bytes := s2.data.toList) rfl (by rw [z2]; rfl)
        rw [data_len] at hz2
        have hwe := weights_all hw' (j := 0) rfl rfl
        obtain ⟨us, k1, _, hux, _, hul, hu⟩ := DataW.trod_struct Try.underlying36 t0
        match us, hul, hu, hux with
        | [v0, v1, v2], _, hu, hux =>
          have u0 := hu 0 _ rfl
          have u1 := hu 1 _ rfl
          have u2 := hu 2 _ rfl
          simp [int_cells, setA_cells] at u0 u1 u2
          obtain ⟨s4, e4, _, _⟩ := DataW.trod_int Try.underlying3 u1
          obtain ⟨s5, e5, _, _⟩ := DataW.trod_int Try.underlying3 u2
          simp at e4 e5
          have hde : y0.1 = .agg [v0.1, v1.1, v2.1] := by
            have := congrArg Prod.fst hux
            simpa using this
          rw [hde] at hwe
          have hwe' : (DataW.weightsEach Try.prog [34, 3, 3] [v0.1, v1.1, v2.1]).all (· ≤ reachBytes) = true := by
            rw [← hwe]
            unfold DataW.weights
            rw [Try.underlying36]
            rfl
          have hws := weights_all hwe' (j := 0) rfl rfl
          obtain ⟨ws, k2, _, hvx, _, hvl, hv⟩ := DataW.trod_struct Try.underlying34 u0
          match ws, hvl, hv, hvx with
          | [x0, x1, x2, x3], _, hv, hvx =>
            have q0 := hv 0 _ rfl
            have q1 := hv 1 _ rfl
            have q2 := hv 2 _ rfl
            have q3 := hv 3 _ rfl
            simp [s_cellsOf, int_cells, txt_cells] at q0 q1 q2 q3
            obtain ⟨s6, e6, z6, _⟩ := DataW.trod_string Try.underlying9 q0
            obtain ⟨s7, e7, _, _⟩ := DataW.trod_int Try.underlying3 q1
            obtain ⟨s8, e8, _, _⟩ := DataW.trod_int Try.underlying3 q2
            simp at e6 e7 e8
            have hds : v0.1 = .agg [x0.1, x1.1, x2.1, x3.1] := by
              have := congrArg Prod.fst hvx
              simpa using this
            rw [hds] at hws
            have hws' : (DataW.weightsEach Try.prog [9, 3, 3, 32] [x0.1, x1.1, x2.1, x3.1]).all (· ≤ reachBytes) = true := by
              rw [← hws]
              unfold DataW.weights
              rw [Try.underlying34]
              rfl
            have hz6 := sized_string hws' (j := 0) (t := 9) (bytes := s6.data.toList) rfl (by rw [z6]; rfl)
            rw [data_len] at hz6
            obtain ⟨ds, hrow, hlen3, hsz3⟩ := open_tfar q3 (weights_all hws' (j := 3) rfl rfl)
            have hmx : ∀ k : Nat, k ≤ reachBytes → k ≤ maxLen := fun k hk => by unfold reachBytes at hk; unfold maxLen; omega
            refine ⟨⟨⟨s6, s7, s8, ds, s4, s5⟩, c3, s1, s2, s3⟩, fun j hj => ?_, ⟨hrow, hlen3, hsz3, hmx _ hz6, hmx _ hz2, wf3⟩⟩
            have := hcell j (by simpa using hj)
            rw [this]
            subst e1 e2 e3 e4 e5 e6 e7 e8
            rfl
    obtain ⟨rs, hl, hq⟩ := list_of len0 each
    refine ⟨rs, ?_, by omega, fun r hr => ?_⟩
    · rw [hl]
      exact row_of (f := acV) (z := 9) (fun _ => rfl) (by decide) hl (fun i hi j hj => (hq i hi).1 j hj)
    · obtain ⟨i, hi, rfl⟩ := List.getElem_of_mem hr
      exact (hq i (by omega)).2
end

end Go.Proofs.Ytcmhjlflgedcdaa
