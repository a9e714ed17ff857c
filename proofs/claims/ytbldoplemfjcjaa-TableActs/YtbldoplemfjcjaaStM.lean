/- Structs as a whole out of their blocks and into them. -/
import Derived.Test.YtbldoplemfjcjaaGnB
import Derived.Deep.WholeRow
namespace Go.Proofs.Ytbldoplemfjcjaa
open Go.RowKit
open Pl

theorem results_cell {fn : Func} {p : Tmp} {ty : TypeId} (h : fn.results = #[.cell p ty]) (tmps : Array Value) (P : Program) (w : World) :
    (results fn tmps).run P w = ((asAddr (tmps.getD p undef)).run P w).andThen fun a w1 => (loadVar ty a).run P w1 := by
  simp only [results, h]
  simp [Sem.run_bind, Result.andThen]
def structB (T : TypeId) : Prop := ∃ fs, Try.prog.underlying T = some (.struct fs)
theorem load_s {w : World} {g : Nat} {C : Array Value} {t : TypeId} (T : TypeId) (hg : Blk w g C t) (hu : structB T) (hs : (Try.prog.info? T).map (·.size) = some C.size) : (loadVar T ⟨g, 0, none⟩).run Try.prog w = .ok (.agg C) w := by
  obtain ⟨fs, hq⟩ := hu
  exact run_loadVar_row _ _ t T C (0, 0) _ hg hq rfl hs
theorem store_s {w : World} {g : Nat} {Z C : Array Value} {t : TypeId} (T : TypeId) (hg : Blk w g Z t) (hs : (Try.prog.info? T).map (·.size) = some C.size) (hZ : Z.size = C.size) (h1 : C.all (·.oneCell') = true) :
    ∃ w', (storeVar T ⟨g, 0, none⟩ (.agg C)).run Try.prog w = .ok () w' ∧ Blk w' g C t ∧ Turn (fun k => k = g) w w' ∧ w'.heap.size = w.heap.size ∧ w'.drawn = w.drawn :=
  ⟨_, run_storeVar_row _ _ t T Z C hg hs hZ h1, setRow_heap _ _ Z _ t (0, 0) hg, Turn.of_grown (row := some g) ⟨rfl, rfl, rfl, by simp, fun k _ hne => setRow_other _ _ _ _ (fun e => hne (by rw [e]))⟩ (fun k e => (Option.some.inj e).symm), by simp, rfl⟩
/-- A whole struct out of its block. -/
theorem wpList_loadS (w : World) {ops : Array Oper} {rest : List Oper} {o : Oper} {a : Act} {Q : Exit → Act → World → Prop} (hgd : o.guard = none) (x : Operand) (T : TypeId) (ho : o.op = .load T x) (g : Nat) (C : Array Value) (t : TypeId)
    (hx : a.eval x = .pointer (some ⟨g, 0, none⟩)) (hg : Blk w g C t) (hu : structB T) (hs : (Try.prog.info? T).map (·.size) = some C.size)
    (h : wpList Try.prog ops Q rest (a.put o.dst (.agg C)) w) : wpList Try.prog ops Q (o :: rest) a w := by
  refine wpList_plain hgd fun K hK => ?_
  have hr : (Instr.loadAt T (.pointer (some ⟨g, 0, none⟩))).run Try.prog w = .ok (.agg C) w := by
    simp only [Instr.loadAt, Instr.sureAddr, Sem.run_bind, Sem.run_pure, Result.andThen]
    exact load_s T hg hu hs
  unfold Oper.wp execOp
  simp only [ho, hx, Sem.run_bind, hr, Result.andThen_ok, Sem.run_pure]
  exact hK _ _ h
/-- A whole struct into its block. -/
theorem wpList_storeS (w : World) {ops : Array Oper} {rest : List Oper} {o : Oper} {a : Act} {Q : Exit → Act → World → Prop} (hgd : o.guard = none) (x y : Operand) (T : TypeId) (ho : o.op = .store T x y) (g : Nat) (Z C : Array Value) (t : TypeId)
    (hx : a.eval x = .pointer (some ⟨g, 0, none⟩)) (hy : a.eval y = .agg C) (hg : Blk w g Z t) (hs : (Try.prog.info? T).map (·.size) = some C.size) (hZ : Z.size = C.size) (h1 : C.all (·.oneCell') = true)
    (h : ∀ w', Blk w' g C t → Turn (fun k => k = g) w w' → w'.heap.size = w.heap.size → w'.drawn = w.drawn → wpList Try.prog ops Q rest (a.put o.dst undef) w') : wpList Try.prog ops Q (o :: rest) a w := by
  refine wpList_plain hgd fun K hK => ?_
  obtain ⟨w', hrun, hb, ht, hz, hd⟩ := store_s T hg hs hZ h1
  have hr : (Instr.storeAt T (.pointer (some ⟨g, 0, none⟩)) (.agg C)).run Try.prog w = .ok () w' := by
    simp only [Instr.storeAt, Instr.sureAddr, Sem.run_bind, Sem.run_pure, Result.andThen]
    exact hrun
  unfold Oper.wp execOp
  simp only [ho, hx, hy, Sem.run_bind, hr, Result.andThen_ok, Sem.run_pure]
  exact hK _ _ (h _ hb ht hz hd)
/-- The same in a region that draws its order. -/
theorem step_storeS (w : World) {ops : Array Oper} {o : Oper} {a : Act} {K : Act → World → Prop} {Q : Exit → Act → World → Prop} {E : Prop} (hgd : o.guard = none) (x y : Operand) (T : TypeId) (ho : o.op = .store T x y) (g : Nat) (Z C : Array Value) (t : TypeId)
    (hx : a.eval x = .pointer (some ⟨g, 0, none⟩)) (hy : a.eval y = .agg C) (hg : Blk w g Z t) (hs : (Try.prog.info? T).map (·.size) = some C.size) (hZ : Z.size = C.size) (h1 : C.all (·.oneCell') = true)
    (h : ∀ w', Blk w' g C t → Turn (fun k => k = g) w w' → w'.heap.size = w.heap.size → w'.drawn = w.drawn → K (a.put o.dst undef) w') : if Region.wanted o (yielded ops a.tmps) = true then Oper.wp Try.prog o a w K Q else E := by
  have hw : Region.wanted o (yielded ops a.tmps) = true := by simp [Region.wanted, hgd]
  rw [if_pos hw]
  obtain ⟨w', hrun, hb, ht, hz, hd⟩ := store_s T hg hs hZ h1
  have hr : (Instr.storeAt T (.pointer (some ⟨g, 0, none⟩)) (.agg C)).run Try.prog w = .ok () w' := by
    simp only [Instr.storeAt, Instr.sureAddr, Sem.run_bind, Sem.run_pure, Result.andThen]
    exact hrun
  unfold Oper.wp execOp
  simp only [ho, hx, hy, Sem.run_bind, hr, Result.andThen_ok, Sem.run_pure]
  exact h _ hb ht hz hd
/-- What a function hands back out of its result's block. -/
theorem ret_s {fn : Func} {p : Tmp} {T : TypeId} (hf : fn.results = #[.cell p T]) {tmps : Array Value} {w : World} {g : Nat} {C : Array Value} {t : TypeId} (hp : tmps.getD p undef = .pointer (some ⟨g, 0, none⟩)) (hg : Blk w g C t) (hu : structB T) (hs : (Try.prog.info? T).map (·.size) = some C.size) :
    (results fn tmps).run Try.prog w = .ok (.agg C) w := by
  have hl := load_s T hg hu hs
  rw [results_cell hf, hp]
  simp only [asAddr, Sem.run_pure, Result.andThen]
  exact hl
theorem ret_s1 {fn : Func} {p q : Tmp} {T : TypeId} (hf : fn.results = #[.cell p T, .tmp q]) {tmps : Array Value} {w : World} {g : Nat} {C : Array Value} {t : TypeId} {v : Value} (hp : tmps.getD p undef = .pointer (some ⟨g, 0, none⟩)) (hq : tmps.getD q undef = v) (hg : Blk w g C t) (hu : structB T) (hs : (Try.prog.info? T).map (·.size) = some C.size) :
    (results fn tmps).run Try.prog w = .ok (.tuple #[.agg C, v]) w := by
  have hl := load_s T hg hu hs
  have ha : (asAddr (tmps.getD p undef)).run Try.prog w = .ok ⟨g, 0, none⟩ w := by rw [hp]; simp only [asAddr, Sem.run_pure]
  rw [Array.getD_eq_getD_getElem?] at ha hq
  simp only [results, hf]
  simp [Sem.run_bind, Result.andThen]
  rw [ha]
  simp only
  rw [hl, hq]
theorem ret_s2 {fn : Func} {p q r : Tmp} {T : TypeId} (hf : fn.results = #[.cell p T, .tmp q, .tmp r]) {tmps : Array Value} {w : World} {g : Nat} {C : Array Value} {t : TypeId} {v u : Value} (hp : tmps.getD p undef = .pointer (some ⟨g, 0, none⟩)) (hq : tmps.getD q undef = v) (hr : tmps.getD r undef = u) (hg : Blk w g C t) (hu : structB T) (hs : (Try.prog.info? T).map (·.size) = some C.size) :
    (results fn tmps).run Try.prog w = .ok (.tuple #[.agg C, v, u]) w := by
  have hl := load_s T hg hu hs
  have ha : (asAddr (tmps.getD p undef)).run Try.prog w = .ok ⟨g, 0, none⟩ w := by rw [hp]; simp only [asAddr, Sem.run_pure]
  rw [Array.getD_eq_getD_getElem?] at ha hq hr
  simp only [results, hf]
  simp [Sem.run_bind, Result.andThen]
  rw [ha]
  simp only
  rw [hl, hq, hr]
theorem Turn.one_below {w a b : World} {g : Nat} (h : Turn (fun k => k = g) a b) (hb : Below w.heap.size w a) (hg : w.heap.size ≤ g) : Below w.heap.size w b := Turn.below hb h hb.size (fun i e => by rw [e]; exact hg)

end Go.Proofs.Ytbldoplemfjcjaa
