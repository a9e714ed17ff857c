/- Arguments as they come in: a row of strings, an api.Soa. -/
import Derived.Test.YtoeaogbeifkliaaRdG
import Derived.ChangeSlices
import Derived.SliceStrings
import Derived.Carry
import Derived.ProofKit
import Derived.OpenShut
import Derived.ShutString
namespace Go.Proofs.Ytoeaogbeifkliaa
open Go.ChangeShapes Go.WideShapes Go.ChangeAt Go.RowKit
open Go.ChangeMaps (open_string shut_string)

open Pl in
theorem refMay_as (s : ByteArray) (b : Bool) (w : World) (hs : s.size ≤ maxLen) (h : isName s.data.toList = b) :
    Calls Try.prog 28 #[.string s] w fun e w' => e = .returned (.bool b) ∧ Below w.heap.size w w' := by rw [← h]; exact refMay_any s w hs

theorem str_cells : Try.prog.cellsOf 9 = 1 := by kernel_rfl
theorem int_cells : Try.prog.cellsOf 3 = 1 := by kernel_rfl
theorem soa_cells : Try.prog.cellsOf 23 = 7 := by kernel_rfl

theorem take_getD (l : List ByteArray) (n i : Nat) (h : i < n) : (l.take n).getD i ⟨#[]⟩ = l.getD i ⟨#[]⟩ := by
  rw [List.getD_eq_getElem?_getD, List.getD_eq_getElem?_getD, List.getElem?_take_of_lt h]

/-- A row of strings as it comes in. -/
theorem open_srow {H : Type} {enc : TypeId × Value → H} {W : World} {r : Reach} {b0 : Nat} {v : Value} {d : DataW H} {p : List MemPlace} (hval : Value.okWide Try.prog W r b0 24 v) (h0 : DataW.Trod enc Try.prog W 0 (fun _ => true) true 24 v d p) :
    ∃ ps : List ByteArray, DataW.Trod enc Try.prog W 0 (fun _ => true) true 24 v d p ∧ (ps = [] ∨ ∃ el sp, d = .slice el sp ∧ el.length = ps.length) ∧ SRow W v ps := by
  obtain ⟨x0, len, cap, rfl⟩ := okWide_slice Try.underlying24 hval
  have h0k := h0
  obtain ⟨fuel, hf⟩ := h0
  have hf' : DataW.trod enc Try.prog W 0 (fun _ => true) true fuel 24 [.slice x0 len cap] = some (d, p) := by simpa [Value.cells] using hf
  rcases open_strings Try.underlying24 Try.underlying9 str_cells hf' with ⟨hcs, _⟩ | ⟨a, len', cap', ss, hcs, _, hl, hm, hz, hx, hcell, hws⟩
  · simp at hcs
    obtain ⟨rfl, rfl, rfl⟩ := hcs
    exact ⟨[], h0k, .inl rfl, .inl ⟨rfl, rfl⟩, by simp, fun i hi => by simp at hi⟩
  · simp at hcs
    obtain ⟨rfl, rfl, rfl⟩ := hcs
    rw [if_pos rfl] at hz
    have hlen : (ss.take len).length = len := by rw [List.length_take]; omega
    refine ⟨ss.take len, h0k, .inr ⟨_, _, (Prod.mk.inj hx).1, by simp [strs]⟩, .inr ⟨a, cap, by rw [hlen], fun i hi => ?_⟩, by rw [hlen]; omega, fun i hi => ?_⟩
    · rw [hlen] at hi
      rw [take_getD _ _ _ hi, hcell i (by omega)]; rfl
    · rw [hlen] at hi
      rw [take_getD _ _ _ hi, List.getD_eq_getElem?_getD, List.getElem?_eq_getElem (by omega)]
      exact hws _ (List.getElem_mem _)

/-- An api.Soa as it comes in. -/
theorem open_soa {H : Type} {enc : TypeId × Value → H} {W : World} {r : Reach} {b0 : Nat} {v : Value} {d : DataW H} {p : List MemPlace} (hval : Value.okWide Try.prog W r b0 23 v) (h0 : DataW.Trod enc Try.prog W 0 (fun _ => true) true 23 v d p) :
    ∃ (h m : ByteArray) (a b c e f : Int), v = .agg (soaV h m a b c e f) ∧ p = [] ∧ h.size ≤ maxLen ∧ m.size ≤ maxLen := by
  obtain ⟨cs, rfl, hsz⟩ := okWide_struct Try.underlying23 hval
  obtain ⟨fuel, hf⟩ := h0
  obtain ⟨xs, n, _, hx, hl, hlen, hfs⟩ := DataW.trod_struct Try.underlying23 hf
  obtain ⟨l, rfl⟩ : ∃ l : List Value, cs = l.toArray := ⟨cs.toList, by simp⟩
  have hl7 : l.length = 7 := by rw [soa_cells] at hsz; simpa using hsz
  match l, hl7 with
  | [c0, c1, c2, c3, c4, c5, c6], _ =>
  match xs, hlen with
  | [y0, y1, y2, y3, y4, y5, y6], _ =>
    have t0 := hfs 0 _ rfl
    have t1 := hfs 1 _ rfl
    have t2 := hfs 2 _ rfl
    have t3 := hfs 3 _ rfl
    have t4 := hfs 4 _ rfl
    have t5 := hfs 5 _ rfl
    have t6 := hfs 6 _ rfl
    simp [str_cells, int_cells, Value.cells] at t0 t1 t2 t3 t4 t5 t6
    obtain ⟨h, e0, x0, s0⟩ := DataW.trod_string Try.underlying9 t0
    obtain ⟨m, e1, x1, s1⟩ := DataW.trod_string Try.underlying9 t1
    obtain ⟨a, e2, x2, _⟩ := DataW.trod_int Try.underlying3 t2
    obtain ⟨b, e3, x3, _⟩ := DataW.trod_int Try.underlying3 t3
    obtain ⟨c, e4, x4, _⟩ := DataW.trod_int Try.underlying3 t4
    obtain ⟨e, e5, x5, _⟩ := DataW.trod_int Try.underlying3 t5
    obtain ⟨f, e6, x6, _⟩ := DataW.trod_int Try.underlying3 t6
    simp at e0 e1 e2 e3 e4 e5 e6
    subst e0 e1 e2 e3 e4 e5 e6
    refine ⟨h, m, a, b, c, e, f, rfl, ?_, s0, s1⟩
    have := (Prod.mk.inj hx).2
    rw [this, x0, x1, x2, x3, x4, x5, x6]
    rfl

end Go.Proofs.Ytoeaogbeifkliaa
