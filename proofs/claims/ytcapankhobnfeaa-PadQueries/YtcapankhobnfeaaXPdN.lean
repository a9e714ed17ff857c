/- An api.Step as it comes in. -/
import Derived.Test.YtcapankhobnfeaaXP6
namespace Go.Proofs.Ytcapankhobnfeaa
open Go.ChangeShapes Go.WideShapes Go.ChangeAt Go.RowKit

theorem st_cellsOf : Try.prog.cellsOf 23 = 2 := by kernel_rfl
section
variable {H : Type} {enc : TypeId × Value → H} {W : World}
set_option maxRecDepth 100000 in
/-- An api.Step as it comes in. -/
theorem open_step {r : Reach} {b0 : Nat} {v : Value} {d : DataW H} {p : List MemPlace} (hval : Value.okWide Try.prog W r b0 23 v) (h0 : DataW.Trod enc Try.prog W 0 (fun _ => true) true 23 v d p) :
    ∃ (n : ByteArray) (t : Int), v = .agg #[.string n, .int .i64 t] ∧ p = [] ∧ n.size ≤ maxLen ∧ True := by
  obtain ⟨cs, rfl, hsz⟩ := okWide_struct Try.underlying23 hval
  obtain ⟨fuel, hf⟩ := h0
  obtain ⟨xs, n, _, hx, hl, hlen, hfs⟩ := DataW.trod_struct Try.underlying23 hf
  obtain ⟨l, rfl⟩ : ∃ l : List Value, cs = l.toArray := ⟨cs.toList, by simp⟩
  have hl5 : l.length = 2 := by rw [st_cellsOf] at hsz; simpa using hsz
  match l, hl5 with
  | [c0, c1], _ =>
  match xs, hlen with
  | [y0, y1], _ =>
    have t0 := hfs 0 _ rfl
    have t1 := hfs 1 _ rfl
    simp [s_cellsOf, int_cells, Value.cells] at t0 t1
    obtain ⟨s, e0, x0, hs⟩ := DataW.trod_string Try.underlying9 t0
    obtain ⟨t, e1, x1, _⟩ := DataW.trod_int Try.underlying3 t1
    simp at e0 e1
    subst e0 e1
    refine ⟨s, t, rfl, ?_, hs, trivial⟩
    have := (Prod.mk.inj hx).2
    rw [this, x0, x1]
    rfl
end

end Go.Proofs.Ytcapankhobnfeaa
