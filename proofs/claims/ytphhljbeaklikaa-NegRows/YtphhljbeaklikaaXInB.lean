/- A row of texts as it comes in. -/
import Derived.Test.YtphhljbeaklikaaXInA
import Derived.Test.YtphhljbeaklikaaXStB
namespace Go.Proofs.Ytphhljbeaklikaa
open Go.ChangeShapes Go.WideShapes Go.ChangeAt Go.RowKit

/-- A row of texts, how many and how long. -/
def SRow (w : World) (v : Value) (ps : List ByteArray) : Prop := Row w v ps.length (tC ps) ∧ ps.length ≤ maxLen ∧ ∀ d ∈ ps, d.size ≤ maxLen
theorem SRow.below {w w' : World} {v : Value} {ps : List ByteArray} (h : SRow w v ps) (hb : Below w.heap.size w w') : SRow w' v ps := ⟨h.1.below hb, h.2⟩
theorem tC_flat (ps : List ByteArray) : tC ps = ps.flatMap (fun s => [Value.string s]) := by
  induction ps with
  | nil => rfl
  | cons a l ih => unfold tC at *; simp [ih]
set_option maxRecDepth 20000 in
theorem open_srow {H : Type} {enc : TypeId × Value → H} {W : World} {r : Reach} {b0 : Nat} {v : Value} {d : DataW H} {p : List MemPlace} (hval : Value.okWide Try.prog W r b0 53 v) (h0 : DataW.Trod enc Try.prog W 0 (fun _ => true) true 53 v d p) :
    ∃ ps : List ByteArray, DataW.Trod enc Try.prog W 0 (fun _ => true) true 53 v d p ∧ (ps = [] ∨ ∃ el sp, d = .slice el sp ∧ el.length = ps.length) ∧ SRow W v ps := by
  obtain ⟨x0, len, cap, rfl⟩ := okWide_slice Try.underlying53 hval
  have h0k := h0
  obtain ⟨fuel, hf⟩ := h0
  have hf' : DataW.trod enc Try.prog W 0 (fun _ => true) true fuel 53 [.slice x0 len cap] = some (d, p) := by simpa [Value.cells] using hf
  rcases open_strings Try.underlying53 Try.underlying9 (by kernel_rfl) hf' with ⟨hcs, _⟩ | ⟨a, len', cap', ss, hcs, _, hl, hm, hz, hx, hcell, hws⟩
  · simp at hcs
    obtain ⟨rfl, rfl, rfl⟩ := hcs
    exact ⟨[], h0k, .inl rfl, Row.nil _ _, by simp, fun d hd => by simp at hd⟩
  · simp at hcs
    obtain ⟨rfl, rfl, rfl⟩ := hcs
    rw [if_pos rfl] at hz
    have hlen : (ss.take len).length = len := by rw [List.length_take]; omega
    refine ⟨ss.take len, h0k, .inr ⟨_, _, (Prod.mk.inj hx).1, by simp [strs]⟩, ?_, by rw [hlen]; omega, fun d hd => hws d (List.mem_of_mem_take hd)⟩
    rw [tC_flat, hlen]
    refine row_of (f := fun s => [Value.string s]) (z := 1) (fun _ => rfl) (by decide) hlen (fun i hi j hj => ?_)
    obtain rfl : j = 0 := by omega
    rw [hlen] at hi
    have h1 := hcell i (by omega)
    have h2 : ((a.add (i * 1)).add 0) = a.add i := by rw [Nat.mul_one]; unfold Addr.add; split <;> simp_all
    rw [h2, h1]
    simp [List.getElem?_eq_getElem (show i < ss.length by omega)]

end Go.Proofs.Ytphhljbeaklikaa
