/- A row of numbers as it comes in; which Code a number picks; the options that EcsMixed makes. -/
import Derived.Test.YtfhaogacblnnnaaOpM
import Derived.Test.YtfhaogacblnnnaaEcD
namespace Go.Proofs.Ytfhaogacblnnnaa
open Go.ChangeShapes Go.WideShapes Go.ChangeAt Go.RowKit

/-- Numbers as cells. -/
def iV (p : Int) : List Value := [.int .i64 p]
def iC (ps : List Int) : List Value := ps.flatMap iV
theorem iC_at {ps : List Int} {k : Nat} (hk : k < ps.length) : (iC ps)[k]? = some (.int .i64 ps[k]) := by
  have := flat_get (f := iV) (z := 1) (fun _ => rfl) ps k hk 0 (by decide)
  rw [Nat.mul_one, Nat.add_zero] at this
  exact this

section
variable {H : Type} {enc : TypeId × Value → H} {W : World}
set_option maxRecDepth 20000 in
/-- A row of numbers as it comes in. -/
theorem open_irow {r : Reach} {b0 : Nat} {v : Value} {d : DataW H} {p : List MemPlace} (hval : Value.okWide Try.prog W r b0 34 v) (h0 : DataW.Trod enc Try.prog W 0 (fun _ => true) true 34 v d p) :
    ∃ ps : List Int, Row W v ps.length (iC ps) ∧ ps.length ≤ maxLen := by
  obtain ⟨x0, len0, cap0, rfl⟩ := okWide_slice Try.underlying34 hval
  obtain ⟨fuel, hf⟩ := h0
  have hf' : DataW.trod enc Try.prog W 0 (fun _ => true) true fuel 34 [.slice x0 len0 cap0] = some (d, p) := by simpa [Value.cells] using hf
  rcases DataW.trod_slice Try.underlying34 hf' with ⟨h0, _⟩ | ⟨a, len, cap, elems, rest, n, _, hcs, hx, _, hlc, hcm, hlen, hel, _, _⟩
  · simp at h0
    obtain ⟨rfl, rfl, rfl⟩ := h0
    exact ⟨[], Row.nil _ _, Nat.zero_le _⟩
  · simp at hcs
    obtain ⟨rfl, rfl, rfl⟩ := hcs
    have each : ∀ i, i < len0 → ∃ q : Int, ∀ j, j < 1 → W.cell? ((a.add (i * 1)).add j) = (iV q)[j]? := by
      intro i hi
      have hb := hel i hi
      rw [int_cells] at hb
      have hs : elems[i]? = some elems[i] := List.getElem?_eq_getElem (by omega)
      rw [hs, Option.bind_eq_some_iff] at hb
      obtain ⟨cs, hcs, hy⟩ := hb
      obtain ⟨_, hcl, hcell⟩ := World.cells?_some hcs
      match cs, hcl, hcell, hy with
      | [c0], _, hcell, hy =>
        obtain ⟨t, e0, _, _⟩ := DataW.trod_int Try.underlying3 hy
        simp at e0
        refine ⟨t, fun j hj => ?_⟩
        have := hcell j (by simpa using hj)
        rw [this]
        subst e0
        rfl
    obtain ⟨qs, hl, hq⟩ := list_of len0 each
    refine ⟨qs, ?_, by omega⟩
    rw [hl]
    exact row_of (f := iV) (z := 1) (fun _ => rfl) (by decide) hl (fun i hi j hj => hq i hi j hj)
end

/-- Which Code a number picks. -/
def codeL : List Int := [8, 12, 8, 65535, 0]
def pk (p : Int) : Nat := (p % 18446744073709551616 % 5).toNat
theorem pk_lt (p : Int) : pk p < 5 := by unfold pk; omega
theorem pk_int (p : Int) : (pk p : Int) = p % 18446744073709551616 % 5 := by unfold pk; omega
/-- The option that EcsMixed makes of the i-th number. -/
def opAt (ps : List Int) (D : ByteArray) (i : Nat) : On := ⟨codeL.getD (pk (ps.getD i 0)) 0, D ++ ⟨#[UInt8.ofNat i]⟩⟩
def opTo (ps : List Int) (D : ByteArray) (j : Nat) : List On := (List.range j).map (opAt ps D)
theorem opTo_len (ps : List Int) (D : ByteArray) (j : Nat) : (opTo ps D j).length = j := by simp [opTo]
theorem opTo_succ (ps : List Int) (D : ByteArray) (j : Nat) : opTo ps D (j + 1) = opTo ps D j ++ [opAt ps D j] := by simp [opTo, List.range_succ]
theorem opTo_d {ps : List Int} {D : ByteArray} {j : Nat} {o : On} (h : o ∈ opTo ps D j) : o.d.size = D.size + 1 := by
  simp only [opTo, List.mem_map] at h
  obtain ⟨i, _, rfl⟩ := h
  show (D ++ (⟨#[UInt8.ofNat i]⟩ : ByteArray)).size = _
  rw [ByteArray.size_append]
  rfl

end Go.Proofs.Ytfhaogacblnnnaa
