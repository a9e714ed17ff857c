/- A row of numbers, a row of records as they come in. -/
import Derived.Test.YtbldoplemfjcjaaGnC
namespace Go.Proofs.Ytbldoplemfjcjaa
open Go.ChangeShapes Go.WideShapes Go.ChangeAt Go.RowKit

/-- Numbers as cells. -/
def iV (p : Int) : List Value := [.int .i64 p]
def iC (ps : List Int) : List Value := ps.flatMap iV
theorem iC_at {ps : List Int} {k : Nat} (hk : k < ps.length) : (iC ps)[k]? = some (.int .i64 ps[k]) := by
  have := flat_get (f := iV) (z := 1) (fun _ => rfl) ps k hk 0 (by decide)
  rw [Nat.mul_one, Nat.add_zero] at this
  exact this

section
variable {H : Type} {enc : TypeId × Value → H} {W : World}
set_option maxRecDepth 20000 in
/-- A row of numbers as it comes in. -/
theorem open_irow {r : Reach} {b0 : Nat} {v : Value} {d : DataW H} {p : List MemPlace} (hval : Value.okWide Try.prog W r b0 52 v) (h0 : DataW.Trod enc Try.prog W 0 (fun _ => true) true 52 v d p) :
    ∃ ps : List Int, Row W v ps.length (iC ps) ∧ ps.length ≤ maxLen := by
  obtain ⟨x0, len0, cap0, rfl⟩ := okWide_slice Try.underlying52 hval
  obtain ⟨fuel, hf⟩ := h0
  have hf' : DataW.trod enc Try.prog W 0 (fun _ => true) true fuel 52 [.slice x0 len0 cap0] = some (d, p) := by simpa [Value.cells] using hf
  rcases DataW.trod_slice Try.underlying52 hf' with ⟨h0, _⟩ | ⟨a, len, cap, elems, rest, n, _, hcs, hx, _, hlc, hcm, hlen, hel, _, _⟩
  · simp at h0
    obtain ⟨rfl, rfl, rfl⟩ := h0
    exact ⟨[], Row.nil _ _, Nat.zero_le _⟩
  · simp at hcs
    obtain ⟨rfl, rfl, rfl⟩ := hcs
    have each : ∀ i, i < len0 → ∃ q : Int, ∀ j, j < 1 → W.cell? ((a.add (i * 1)).add j) = (iV q)[j]? := by
      intro i hi
      have hb := hel i hi
      rw [int_cells] at hb
      have hs : elems[i]? = some elems[i] := List.getElem?_eq_getElem (by omega)
      rw [hs, Option.bind_eq_some_iff] at hb
      obtain ⟨cs, hcs, hy⟩ := hb
      obtain ⟨_, hcl, hcell⟩ := World.cells?_some hcs
      match cs, hcl, hcell, hy with
      | [c0], _, hcell, hy =>
        obtain ⟨t, e0, _, _⟩ := DataW.trod_int Try.underlying3 hy
        simp at e0
        refine ⟨t, fun j hj => ?_⟩
        have := hcell j (by simpa using hj)
        rw [this]
        subst e0
        rfl
    obtain ⟨qs, hl, hq⟩ := list_of len0 each
    refine ⟨qs, ?_, by omega⟩
    rw [hl]
    exact row_of (f := iV) (z := 1) (fun _ => rfl) (by decide) hl (fun i hi j hj => hq i hi j hj)
end


end Go.Proofs.Ytbldoplemfjcjaa
