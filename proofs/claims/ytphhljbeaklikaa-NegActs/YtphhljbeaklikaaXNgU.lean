/- A row of acts on a Negs as it comes in: a Put at a tick, then both questions. -/
import Derived.Test.YtphhljbeaklikaaXInA
import Derived.Test.YtphhljbeaklikaaXP6
namespace Go.Proofs.Ytphhljbeaklikaa
open Go.ChangeShapes Go.WideShapes Go.ChangeAt Go.RowKit

theorem nact_cells : Try.prog.cellsOf 35 = 6 := by kernel_rfl
theorem neg_cells : Try.prog.cellsOf 33 = 3 := by kernel_rfl
theorem n_cells9 : Try.prog.cellsOf 9 = 1 := by kernel_rfl
theorem n_cells3 : Try.prog.cellsOf 3 = 1 := by kernel_rfl
/-- An act: what is put, the tick, what is asked for. -/
structure Na where
  x : ByteArray
  s : Int
  u : Int
  now : Int
  n : ByteArray
  t : Int
def naV (p : Na) : List Value := [.string p.x, .int .i64 p.s, .int .i64 p.u, .int .i64 p.now, .string p.n, .int .i64 p.t]
def naC (ps : List Na) : List Value := ps.flatMap naV
theorem naC_at {xs : List Na} {k : Nat} (hk : k < xs.length) (i : Nat) (hi : i < 6) : (naC xs)[k * 6 + i]? = (naV xs[k])[i]? := flat_get (f := naV) (z := 6) (fun _ => rfl) xs k hk i hi
structure NaOk (p : Na) : Prop where
  nam : p.x.size ≤ maxLen
  ask : p.n.size ≤ maxLen
  typ : (Lit.int .i64 p.t).wf = true

section
variable {H : Type} {enc : TypeId × Value → H} {W : World}
set_option maxRecDepth 20000 in
theorem open_nacts {r : Reach} {b0 : Nat} {c : Value} {d : DataW H} {p : List MemPlace} (hval : Value.okWide Try.prog W r b0 22 c) (h0 : DataW.Trod enc Try.prog W 0 (fun _ => true) true 22 c d p) :
    ∃ rs : List Na, Row W c rs.length (naC rs) ∧ rs.length ≤ maxLen ∧ ∀ r ∈ rs, NaOk r := by
  obtain ⟨x0, len0, cap0, rfl⟩ := okWide_slice Try.underlying22 hval
  obtain ⟨fuel, hf⟩ := h0
  have h : DataW.trod enc Try.prog W 0 (fun _ => true) true fuel 22 [.slice x0 len0 cap0] = some (d, p) := by simpa [Value.cells] using hf
  rcases DataW.trod_slice Try.underlying22 h with ⟨h0, _⟩ | ⟨a, len, cap, elems, rest, n, _, hcs, hx, _, hlc, hcm, hlen, hel, _, _⟩
  · simp at h0
    obtain ⟨rfl, rfl, rfl⟩ := h0
    exact ⟨[], Row.nil W _, Nat.zero_le _, fun r h => by simp at h⟩
  · simp at hcs
    obtain ⟨rfl, rfl, rfl⟩ := hcs
    have each : ∀ i, i < len0 → ∃ r : Na, (∀ j, j < 6 → W.cell? ((a.add (i * 6)).add j) = (naV r)[j]?) ∧ NaOk r := by
      intro i hi
      have hb := hel i hi
      rw [nact_cells] at hb
      have hs : elems[i]? = some elems[i] := List.getElem?_eq_getElem (by omega)
      rw [hs, Option.bind_eq_some_iff] at hb
      obtain ⟨cs, hcs, hy⟩ := hb
      obtain ⟨_, hcl, hcell⟩ := World.cells?_some hcs
      obtain ⟨xs, k, _, hxx, _, hxl, hf⟩ := DataW.trod_struct Try.underlying35 hy
      match xs, hxl, cs, hcl, hcell, hf, hxx with
      | [y0, y1, y2, y3], _, [c0, c1, c2, c3, c4, c5], _, hcell, hf, hxx =>
        have t0 := hf 0 _ rfl
        have t1 := hf 1 _ rfl
        have t2 := hf 2 _ rfl
        have t3 := hf 3 _ rfl
        simp [n_cells9, n_cells3, neg_cells] at t0 t1 t2 t3
        obtain ⟨s1, e1, _, _⟩ := DataW.trod_int Try.underlying3 t1
        obtain ⟨s2, e2, _, z2⟩ := DataW.trod_string Try.underlying9 t2
        obtain ⟨s3, e3, _, wf3⟩ := DataW.trod_int Try.underlying3 t3
        simp at e1 e2 e3
        obtain ⟨us, k1, _, hux, _, hul, hu⟩ := DataW.trod_struct Try.underlying33 t0
        match us, hul, hu, hux with
        | [v0, v1, v2], _, hu, hux =>
          have u0 := hu 0 _ rfl
          have u1 := hu 1 _ rfl
          have u2 := hu 2 _ rfl
          simp [n_cells9, n_cells3] at u0 u1 u2
          obtain ⟨s6, e6, _, z6⟩ := DataW.trod_string Try.underlying9 u0
          obtain ⟨s4, e4, _, _⟩ := DataW.trod_int Try.underlying3 u1
          obtain ⟨s5, e5, _, _⟩ := DataW.trod_int Try.underlying3 u2
          simp at e4 e5 e6
          refine ⟨⟨s6, s4, s5, s1, s2, s3⟩, fun j hj => ?_, ⟨z6, z2, wf3⟩⟩
          have := hcell j (by simpa using hj)
          rw [this]
          subst e1 e2 e3 e4 e5 e6
          rfl
    obtain ⟨rs, hl, hq⟩ := list_of len0 each
    refine ⟨rs, ?_, by rw [hl]; omega, fun r hr => ?_⟩
    · rw [hl]
      exact row_of (f := naV) (z := 6) (fun _ => rfl) (by decide) hl (fun i hi j hj => (hq i hi).1 j hj)
    · obtain ⟨i, hi, rfl⟩ := List.getElem_of_mem hr
      exact (hq i (by omega)).2
end

end Go.Proofs.Ytphhljbeaklikaa
