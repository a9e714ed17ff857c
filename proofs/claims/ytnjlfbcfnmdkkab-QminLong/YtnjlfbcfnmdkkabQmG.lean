/- A task as it comes in; answers named. -/
import Derived.Test.YtnjlfbcfnmdkkabQmD
import Derived.ChangeSlices
import Derived.SliceStrings
import Derived.Carry
import Derived.ProofKit
import Derived.OpenShut
import Derived.ShutString
namespace Go.Proofs.Ytnjlfbcfnmdkkab
open Go.ChangeShapes Go.WideShapes Go.ChangeAt Go.RowKit
open Go.ChangeMaps (open_string shut_string)
open Pl
namespace Qm

theorem size_form (s l c o : Int) : ∃ a e, sizeV s l c o = .tuple #[.int .i64 a, .int .i64 e] := by
  cases hm : mayS s l c o with
  | false => exact ⟨_, _, sizeV_no hm⟩
  | true => exact ⟨_, _, sizeV_yes hm⟩
theorem next_form (x : Tk) (c o : Int) : ∃ n t e, nextV x c o = .tuple #[.agg #[.string n, .int .i64 t], .int .i64 e] := by
  cases hm : mayT x c o with
  | false => exact ⟨_, _, _, nextV_no hm⟩
  | true => exact ⟨_, _, _, nextV_yes hm⟩
theorem tk8 {w : World} {g : Nat} {n cut known : ByteArray} {t s sv tr : Int} {fb : Bool} (h : Blk w g #[.string n, .int .i64 t, .string cut, .string known, .int .i64 s, .bool fb, .int .i64 sv, .int .i64 tr] 32) :
    w.cell? ⟨g, 0, none⟩ = some (.string n) ∧ w.cell? ⟨g, 1, none⟩ = some (.int .i64 t) ∧ w.cell? ⟨g, 2, none⟩ = some (.string cut) ∧ w.cell? ⟨g, 3, none⟩ = some (.string known) ∧ w.cell? ⟨g, 4, none⟩ = some (.int .i64 s) ∧ w.cell? ⟨g, 5, none⟩ = some (.bool fb) ∧ w.cell? ⟨g, 6, none⟩ = some (.int .i64 sv) ∧ w.cell? ⟨g, 7, none⟩ = some (.int .i64 tr) :=
  ⟨h.cell 0, h.cell 1, h.cell 2, h.cell 3, h.cell 4, h.cell 5, h.cell 6, h.cell 7⟩
theorem st2 {w : World} {g : Nat} {n : ByteArray} {t : Int} {k : TypeId} (h : Blk w g #[.string n, .int .i64 t] k) : w.cell? ⟨g, 0, none⟩ = some (.string n) ∧ w.cell? ⟨g, 1, none⟩ = some (.int .i64 t) := ⟨h.cell 0, h.cell 1⟩

theorem tk_cellsOf : Try.prog.cellsOf 32 = 8 := by kernel_rfl
theorem s_cellsOf : Try.prog.cellsOf 9 = 1 := by kernel_rfl
section
variable {H : Type} {enc : TypeId × Value → H} {W : World}
set_option maxRecDepth 100000 in
/-- A task as it comes in. -/
theorem open_task {r : Reach} {b0 : Nat} {v : Value} {d : DataW H} {p : List MemPlace} (hval : Value.okWide Try.prog W r b0 32 v) (h0 : DataW.Trod enc Try.prog W 0 (fun _ => true) true 32 v d p) :
    ∃ x : Tk, v = .agg (tkC x) ∧ p = [] ∧ x.n.size ≤ maxLen ∧ x.known.size ≤ maxLen := by
  obtain ⟨cs, rfl, hsz⟩ := okWide_struct Try.underlying32 hval
  obtain ⟨fuel, hf⟩ := h0
  obtain ⟨xs, n, _, hx, hl, hlen, hfs⟩ := DataW.trod_struct Try.underlying32 hf
  obtain ⟨l, rfl⟩ : ∃ l : List Value, cs = l.toArray := ⟨cs.toList, by simp⟩
  have hl8 : l.length = 8 := by rw [tk_cellsOf] at hsz; simpa using hsz
  match l, hl8 with
  | [c0, c1, c2, c3, c4, c5, c6, c7], _ =>
  match xs, hlen with
  | [y0, y1, y2, y3, y4, y5, y6, y7], _ =>
    have t0 := hfs 0 _ rfl
    have t1 := hfs 1 _ rfl
    have t2 := hfs 2 _ rfl
    have t3 := hfs 3 _ rfl
    have t4 := hfs 4 _ rfl
    have t5 := hfs 5 _ rfl
    have t6 := hfs 6 _ rfl
    have t7 := hfs 7 _ rfl
    simp [s_cellsOf, bool_cells, int_cells, Value.cells] at t0 t1 t2 t3 t4 t5 t6 t7
    obtain ⟨a0, e0, x0, z0⟩ := DataW.trod_string Try.underlying9 t0
    obtain ⟨a1, e1, x1, _⟩ := DataW.trod_int Try.underlying3 t1
    obtain ⟨a2, e2, x2, _⟩ := DataW.trod_string Try.underlying9 t2
    obtain ⟨a3, e3, x3, z3⟩ := DataW.trod_string Try.underlying9 t3
    obtain ⟨a4, e4, x4, _⟩ := DataW.trod_int Try.underlying3 t4
    obtain ⟨a5, e5, x5⟩ := DataW.trod_bool Try.underlying4 t5
    obtain ⟨a6, e6, x6, _⟩ := DataW.trod_int Try.underlying3 t6
    obtain ⟨a7, e7, x7, _⟩ := DataW.trod_int Try.underlying3 t7
    simp at e0 e1 e2 e3 e4 e5 e6 e7
    subst e0 e1 e2 e3 e4 e5 e6 e7
    refine ⟨⟨a0, a1, a2, a3, a4, a5, a6, a7⟩, rfl, ?_, z0, z3⟩
    have := (Prod.mk.inj hx).2
    rw [this, x0, x1, x2, x3, x4, x5, x6, x7]
    rfl
end

end Qm
end Go.Proofs.Ytnjlfbcfnmdkkab
