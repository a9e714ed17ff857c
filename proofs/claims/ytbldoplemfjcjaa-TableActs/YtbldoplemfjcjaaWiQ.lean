/- A row that a string's bytes were laid in; a record's bytes that are turned. -/
import Derived.Test.YtbldoplemfjcjaaGnB
import Derived.Test.YtbldoplemfjcjaaPlainR
namespace Go.Proofs.Ytbldoplemfjcjaa
open Go.RowKit
open Pl

/-- A block that a string's bytes were laid in: these bytes at its head, and nothing of them frozen. -/
def BRow (w : World) (g : Nat) (l : List UInt8) : Prop :=
  ∃ cur : Array Value, w.heap[g]? = some (.cells cur 5 (cur.size, cur.size + 1)) ∧ l.length ≤ cur.size ∧ ∀ j (h : j < l.length), cur[j]? = some (bv l[j])

theorem BRow.cell {w : World} {g : Nat} {l : List UInt8} (h : BRow w g l) (j : Nat) (hj : j < l.length) : w.cell? ⟨g, j, none⟩ = some (.int .u8 (l[j].toNat : Int)) := by
  obtain ⟨cur, h1, h2, h3⟩ := h
  rw [cell_of_row w g j cur 5 _ h1]
  exact h3 j hj
theorem BRow.frozen {w : World} {g : Nat} {l : List UInt8} (h : BRow w g l) (j : Nat) (hj : j < l.length) : w.frozen? ⟨g, j, none⟩ = false := by
  obtain ⟨cur, h1, h2, h3⟩ := h
  simp only [World.frozen?, h1]
  simp
  omega
theorem BRow.stored {w : World} {g : Nat} {l : List UInt8} (h : BRow w g l) (j : Nat) (hj : j < l.length) (b : UInt8) :
    BRow (w.setCell ⟨g, j, none⟩ (.int .u8 (b.toNat : Int))) g (l.set j b) ∧ w.grownBy (w.setCell ⟨g, j, none⟩ (.int .u8 (b.toNat : Int))) (some g) := by
  obtain ⟨cur, h1, h2, h3⟩ := h
  refine ⟨⟨cur.setIfInBounds j (.int .u8 (b.toNat : Int)), ?_, by simpa using h2, fun i hi => ?_⟩, ⟨rfl, rfl, rfl, by simp, fun k _ hk => heap_setCell_other w ⟨g, j, none⟩ k _ (fun e => hk (by simp [e]))⟩⟩
  · rw [setCell_eq_setRow w g j cur 5 _ _ h1, setRow_heap w g cur _ 5 _ h1]
    simp
  · simp only [List.length_set] at hi
    by_cases e : i = j
    · subst e
      rw [Array.getElem?_setIfInBounds_self_of_lt (by omega), List.getElem_set_self]
      rfl
    · rw [Array.getElem?_setIfInBounds_ne (by omega), List.getElem_set_ne (by omega)]
      exact h3 i hi
theorem BRow.kept {w w' : World} {g : Nat} {l : List UInt8} (h : BRow w g l) (e : w'.heap[g]? = w.heap[g]?) : BRow w' g l := by
  obtain ⟨cur, h1, h2, h3⟩ := h
  exact ⟨cur, by rw [e]; exact h1, h2, h3⟩

/-- A string's bytes are laid in a block of their own. -/
theorem wpList_bytesB (w : World) {ops : Array Oper} {rest : List Oper} {o : Oper} {a : Act} {Q : Exit → Act → World → Prop} (hgd : o.guard = none) (x : Operand)
    (ho : o.op = .convert 9 90 x) (s : ByteArray) (hx : a.eval x = .string s)
    (h : ∀ cap w', BRow w' w.heap.size s.data.toList → w.grownBy w' none → w'.heap.size = w.heap.size + 1 →
      wpList Try.prog ops Q rest (a.put o.dst (.slice (some ⟨w.heap.size, 0, none⟩) s.size cap)) w') : wpList Try.prog ops Q (o :: rest) a w := by
  refine wpList_plain hgd fun K hK => ?_
  have hr := run_bytes_of_string (P := Try.prog) w 9 90 5 s Try.underlying9 Try.underlying90 Try.underlying5
  unfold Oper.wp execOp
  simp only [ho, hx, Sem.run_bind, hr, Result.andThen_ok, Sem.run_pure]
  refine hK _ _ (h _ _ ⟨_, heap_alloc_last w.drew _, ?_, fun j hj => ?_⟩ ⟨rfl, rfl, rfl, by simp, fun k hk _ => Below.heap_alloc w.drew _ k hk⟩ (by simp))
  · unfold bytesRow
    simp
  · unfold bytesRow
    rw [Array.getElem?_append_left (by simpa using hj)]
    have hd : j < s.data.size := by simpa using hj
    rw [Array.getElem?_map, Array.getElem?_eq_getElem hd]
    rfl

/-- Such bytes become a string. -/
theorem wpList_stringC (w : World) {ops : Array Oper} {rest : List Oper} {o : Oper} {a : Act} {Q : Exit → Act → World → Prop} (hgd : o.guard = none) (x : Operand)
    (ho : o.op = .convert 90 9 x) (g n cap : Nat) (l : List UInt8) (hx : a.eval x = .slice (some ⟨g, 0, none⟩) n cap) (hn : l.length = n) (hrow : BRow w g l)
    (h : wpList Try.prog ops Q rest (a.put o.dst (.string ⟨l.toArray⟩)) w) : wpList Try.prog ops Q (o :: rest) a w := by
  refine wpList_plain hgd fun K hK => ?_
  subst hn
  have hr := run_convert_bytes_back w 90 9 5 ⟨g, 0, none⟩ cap l Try.underlying90 Try.underlying5 Try.underlying9 fun j hj => by
    have hadd : (⟨g, 0, none⟩ : Addr).add j = ⟨g, j, none⟩ := by unfold Addr.add; split <;> simp_all
    rw [hadd]
    exact hrow.cell j hj
  unfold Oper.wp execOp
  simp only [ho, hx, Sem.run_bind, hr, Result.andThen_ok, Sem.run_pure]
  exact hK _ _ h

/-- Such bytes become a string. -/
theorem conv_brow {w : World} {g n cap : Nat} {l : List UInt8} (hrow : BRow w g l) (hn : l.length = n) : (convert 90 9 (.slice (some ⟨g, 0, none⟩) n cap)).run Try.prog w = .ok (.string ⟨l.toArray⟩) w := by
  subst hn
  refine run_convert_bytes_back w 90 9 5 ⟨g, 0, none⟩ cap l Try.underlying90 Try.underlying5 Try.underlying9 fun j hj => ?_
  have hadd : (⟨g, 0, none⟩ : Addr).add j = ⟨g, j, none⟩ := by unfold Addr.add; split <;> simp_all
  rw [hadd]
  exact hrow.cell j hj
theorem BRow.lt {w : World} {g : Nat} {l : List UInt8} (h : BRow w g l) : g < w.heap.size := by
  obtain ⟨cur, h1, _⟩ := h
  exact (Array.getElem?_eq_some_iff.1 h1).1
theorem BRow.below {w w' : World} {g : Nat} {l : List UInt8} (h : BRow w g l) (hb : Below w.heap.size w w') : BRow w' g l := h.kept (hb.block g h.lt)

end Go.Proofs.Ytbldoplemfjcjaa
