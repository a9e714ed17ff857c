/- Rows of acts on a Cuts as they come in. -/
import Derived.Test.YtnjgdfmldjgloaaGreatXP14
import Derived.Test.YtnjgdfmldjgloaaGreatXInA
namespace Go.Proofs.YtnjgdfmldjgloaaGreat
open Go.ChangeShapes Go.WideShapes Go.ChangeAt Go.RowKit
namespace Cu

theorem tC_rows (ps : List ByteArray) : tC ps = ps.flatMap (fun s => [Value.string s]) := by
  unfold tC
  induction ps with
  | nil => rfl
  | cons a ps ih => rw [List.map_cons, ih, List.flatMap_cons]; rfl
theorem ca_cells : Tryz.prog.cellsOf 41 = 11 := by kernel_rfl
theorem ca_deleg : Tryz.prog.cellsOf 39 = 4 := by kernel_rfl
theorem ca_bind : Tryz.prog.cellsOf 65 = 5 := by kernel_rfl
theorem ca_cells9 : Tryz.prog.cellsOf 9 = 1 := by kernel_rfl
theorem ca_cells3 : Tryz.prog.cellsOf 3 = 1 := by kernel_rfl
theorem ca_cellsT : Tryz.prog.cellsOf 36 = 1 := by kernel_rfl
theorem ca_cellsB : Tryz.prog.cellsOf 37 = 1 := by kernel_rfl
/-- An act: what is put, who told it, the tick, what is learned, what is asked for. -/
structure Ca where
  k : Int
  d : Dg
  hv : Value
  gv : Value
  fr : ByteArray
  now : Int
  h : ByteArray
  a : Int
  u : Int
  n : ByteArray
def caV (p : Ca) : List Value := [.int .i64 p.k, .string p.d.c, p.hv, p.gv, .int .i64 p.d.ttl, .string p.fr, .int .i64 p.now, .string p.h, .int .i64 p.a, .int .i64 p.u, .string p.n]
def caC (ps : List Ca) : List Value := ps.flatMap caV
theorem caC_at {xs : List Ca} {k : Nat} (hk : k < xs.length) (i : Nat) (hi : i < 11) : (caC xs)[k * 11 + i]? = (caV xs[k])[i]? := flat_get (f := caV) (z := 11) (fun _ => rfl) xs k hk i hi
structure CaOk (W : World) (p : Ca) : Prop where
  din : DIn W p.d p.hv p.gv
  fr : p.fr.size ≤ maxLen
  h : p.h.size ≤ maxLen
  n : p.n.size ≤ maxLen
theorem CaOk.below {w w' : World} {p : Ca} (h : CaOk w p) (hb : Below w.heap.size w w') : CaOk w' p := ⟨h.din.below hb, h.fr, h.h, h.n⟩

section
variable {H : Type} {enc : TypeId × Value → H} {W : World}
set_option maxRecDepth 20000 in
theorem open_txts {fuel : Nat} {c : Value} {x : DataW H × List MemPlace} (h : DataW.trod enc Tryz.prog W 0 (fun _ => true) true fuel 36 [c] = some x) :
    ∃ ds : List ByteArray, Row W c ds.length (tC ds) ∧ (∃ y k, c = .slice y ds.length k ∧ ds.length ≤ k) ∧ ds.length ≤ maxLen ∧ ∀ d ∈ ds, d.size ≤ maxLen := by
  rcases open_strings Tryz.underlying36 Tryz.underlying9 (by kernel_rfl) h with ⟨hcs, _⟩ | ⟨a, len', cap', ss, hcs, _, hl, hm, hz, hx, hcell, hws⟩
  · simp at hcs
    subst hcs
    exact ⟨[], Row.nil W _, ⟨none, 0, rfl, Nat.le_refl _⟩, Nat.zero_le _, fun d hd => by simp at hd⟩
  · simp at hcs
    subst hcs
    rw [if_pos rfl] at hz
    have hlen : (ss.take len').length = len' := by rw [List.length_take]; omega
    refine ⟨ss.take len', ?_, ⟨some a, cap', by rw [hlen], by rw [hlen]; exact hl⟩, by rw [hlen]; omega, fun d hd => hws d (List.mem_of_mem_take hd)⟩
    rw [tC_rows, hlen]
    refine row_of (f := fun s => [Value.string s]) (z := 1) (fun _ => rfl) (by decide) hlen (fun i hi j hj => ?_)
    obtain rfl : j = 0 := by omega
    rw [hlen] at hi
    have h1 := hcell i (by omega)
    have h2 : ((a.add (i * 1)).add 0) = a.add i := by rw [Nat.mul_one]; unfold Addr.add; split <;> simp_all
    rw [h2, h1]
    simp [List.getElem?_eq_getElem (show i < ss.length by omega)]
set_option maxRecDepth 20000 in
theorem open_binds {fuel : Nat} {c : Value} {x : DataW H × List MemPlace} (h : DataW.trod enc Tryz.prog W 0 (fun _ => true) true fuel 37 [c] = some x) :
    ∃ bs : List Bn, Row W c bs.length (bC bs) ∧ bs.length ≤ maxLen ∧ ∀ b ∈ bs, b.h.size ≤ maxLen := by
  rcases DataW.trod_slice Tryz.underlying37 h with ⟨h0, _⟩ | ⟨a, len, cap, elems, rest, n, _, hcs, hx, _, hlc, hcm, hlen, hel, _, _⟩
  · simp at h0
    subst h0
    exact ⟨[], Row.nil W _, Nat.zero_le _, fun r h => by simp at h⟩
  · simp at hcs
    subst hcs
    have each : ∀ i, i < len → ∃ r : Bn, (∀ j, j < 5 → W.cell? ((a.add (i * 5)).add j) = (bV r)[j]?) ∧ r.h.size ≤ maxLen := by
      intro i hi
      have hb := hel i hi
      rw [ca_bind] at hb
      have hs : elems[i]? = some elems[i] := List.getElem?_eq_getElem (by omega)
      rw [hs, Option.bind_eq_some_iff] at hb
      obtain ⟨cs, hcs, hy⟩ := hb
      obtain ⟨_, hcl, hcell⟩ := World.cells?_some hcs
      obtain ⟨xs, k, _, hxx, _, hxl, hf⟩ := DataW.trod_struct Tryz.underlying65 hy
      match xs, hxl, cs, hcl, hcell, hf, hxx with
      | [y0, y1, y2, y3, y4], _, [c0, c1, c2, c3, c4], _, hcell, hf, hxx =>
        have t0 := hf 0 _ rfl
        have t1 := hf 1 _ rfl
        have t2 := hf 2 _ rfl
        have t3 := hf 3 _ rfl
        have t4 := hf 4 _ rfl
        simp [ca_cells9, ca_cells3] at t0 t1 t2 t3 t4
        obtain ⟨s0, e0, _, _⟩ := DataW.trod_string Tryz.underlying9 t0
        obtain ⟨s1, e1, _, z1⟩ := DataW.trod_string Tryz.underlying9 t1
        obtain ⟨s2, e2, _, _⟩ := DataW.trod_int Tryz.underlying3 t2
        obtain ⟨s3, e3, _, _⟩ := DataW.trod_string Tryz.underlying9 t3
        obtain ⟨s4, e4, _, _⟩ := DataW.trod_int Tryz.underlying3 t4
        simp at e0 e1 e2 e3 e4
        refine ⟨⟨s0, s1, s2, s3, s4⟩, fun j hj => ?_, z1⟩
        have := hcell j (by simpa using hj)
        rw [this]
        subst e0 e1 e2 e3 e4
        rfl
    obtain ⟨rs, hl, hq⟩ := list_of len each
    refine ⟨rs, ?_, by rw [hl]; omega, fun r hr => ?_⟩
    · rw [hl]
      exact row_of (f := bV) (z := 5) (fun _ => rfl) (by decide) hl (fun i hi j hj => (hq i hi).1 j hj)
    · obtain ⟨i, hi, rfl⟩ := List.getElem_of_mem hr
      exact (hq i (by omega)).2
set_option maxRecDepth 20000 in
theorem open_cacts {r : Reach} {b0 : Nat} {c : Value} {d : DataW H} {p : List MemPlace} (hval : Value.okWide Tryz.prog W r b0 23 c) (h0 : DataW.Trod enc Tryz.prog W 0 (fun _ => true) true 23 c d p) :
    ∃ rs : List Ca, Row W c rs.length (caC rs) ∧ rs.length ≤ maxLen ∧ ∀ r ∈ rs, CaOk W r := by
  obtain ⟨x0, len0, cap0, rfl⟩ := okWide_slice Tryz.underlying23 hval
  obtain ⟨fuel, hf⟩ := h0
  have h : DataW.trod enc Tryz.prog W 0 (fun _ => true) true fuel 23 [.slice x0 len0 cap0] = some (d, p) := by simpa [Value.cells] using hf
  rcases DataW.trod_slice Tryz.underlying23 h with ⟨h0, _⟩ | ⟨a, len, cap, elems, rest, n, _, hcs, hx, _, hlc, hcm, hlen, hel, _, _⟩
  · simp at h0
    obtain ⟨rfl, rfl, rfl⟩ := h0
    exact ⟨[], Row.nil W _, Nat.zero_le _, fun r h => by simp at h⟩
  · simp at hcs
    obtain ⟨rfl, rfl, rfl⟩ := hcs
    have each : ∀ i, i < len0 → ∃ r : Ca, (∀ j, j < 11 → W.cell? ((a.add (i * 11)).add j) = (caV r)[j]?) ∧ CaOk W r := by
      intro i hi
      have hb := hel i hi
      rw [ca_cells] at hb
      have hs : elems[i]? = some elems[i] := List.getElem?_eq_getElem (by omega)
      rw [hs, Option.bind_eq_some_iff] at hb
      obtain ⟨cs, hcs, hy⟩ := hb
      obtain ⟨_, hcl, hcell⟩ := World.cells?_some hcs
      obtain ⟨xs, k, _, hxx, _, hxl, hf⟩ := DataW.trod_struct Tryz.underlying41 hy
      match xs, hxl, cs, hcl, hcell, hf, hxx with
      | [y0, y1, y2, y3, y4, y5, y6, y7], _, [c0, c1, c2, c3, c4, c5, c6, c7, c8, c9, c10], _, hcell, hf, hxx =>
        have t0 := hf 0 _ rfl
        have t1 := hf 1 _ rfl
        have t2 := hf 2 _ rfl
        have t3 := hf 3 _ rfl
        have t4 := hf 4 _ rfl
        have t5 := hf 5 _ rfl
        have t6 := hf 6 _ rfl
        have t7 := hf 7 _ rfl
        simp [ca_cells9, ca_cells3, ca_deleg] at t0 t1 t2 t3 t4 t5 t6 t7
        obtain ⟨s0, e0, _, _⟩ := DataW.trod_int Tryz.underlying3 t0
        obtain ⟨s2, e2, _, z2⟩ := DataW.trod_string Tryz.underlying9 t2
        obtain ⟨s3, e3, _, _⟩ := DataW.trod_int Tryz.underlying3 t3
        obtain ⟨s4, e4, _, z4⟩ := DataW.trod_string Tryz.underlying9 t4
        obtain ⟨s5, e5, _, _⟩ := DataW.trod_int Tryz.underlying3 t5
        obtain ⟨s6, e6, _, _⟩ := DataW.trod_int Tryz.underlying3 t6
        obtain ⟨s7, e7, _, z7⟩ := DataW.trod_string Tryz.underlying9 t7
        simp at e0 e2 e3 e4 e5 e6 e7
        obtain ⟨us, k1, _, hux, _, hul, hu⟩ := DataW.trod_struct Tryz.underlying39 t1
        match us, hul, hu, hux with
        | [v0, v1, v2, v3], _, hu, hux =>
          have u0 := hu 0 _ rfl
          have u1 := hu 1 _ rfl
          have u2 := hu 2 _ rfl
          have u3 := hu 3 _ rfl
          simp [ca_cells9, ca_cells3, ca_cellsT, ca_cellsB] at u0 u1 u2 u3
          obtain ⟨r0, f0, _, g0⟩ := DataW.trod_string Tryz.underlying9 u0
          obtain ⟨hs, hrow, hcap, hlen1, hsz1⟩ := open_txts u1
          obtain ⟨bs, brow, blen, bsz⟩ := open_binds u2
          obtain ⟨r3, f3, _, _⟩ := DataW.trod_int Tryz.underlying3 u3
          simp at f0 f3
          refine ⟨⟨s0, ⟨r0, hs, bs, r3⟩, c2, c3, s2, s3, s4, s5, s6, s7⟩, fun j hj => ?_, ⟨⟨hrow, hcap, brow, hlen1, blen, g0, hsz1, bsz⟩, z2, z4, z7⟩⟩
          have := hcell j (by simpa using hj)
          rw [this]
          subst e0 e2 e3 e4 e5 e6 e7 f0 f3
          rfl
    obtain ⟨rs, hl, hq⟩ := list_of len0 each
    refine ⟨rs, ?_, by rw [hl]; omega, fun r hr => ?_⟩
    · rw [hl]
      exact row_of (f := caV) (z := 11) (fun _ => rfl) (by decide) hl (fun i hi j hj => (hq i hi).1 j hj)
    · obtain ⟨i, hi, rfl⟩ := List.getElem_of_mem hr
      exact (hq i (by omega)).2
end

end Cu
end Go.Proofs.YtnjgdfmldjgloaaGreat
