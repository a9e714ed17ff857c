/- s[:k] and s[k:] of a row of the call's own, as rows: the result a letter. -/
import Derived.Test.YtbldoplemfjcjaaGnB
namespace Go.Proofs.Ytbldoplemfjcjaa
open Go.RowKit
open Pl

theorem elem_of {t e : TypeId} (h : Try.prog.underlying t = some (.slice e)) : Try.prog.underlying t = some (.slice (Try.prog.elem t)) := by
  rw [h]; simp [Program.elem, h]
theorem elem_is {t e : TypeId} (h : Try.prog.underlying t = some (.slice e)) : Try.prog.elem t = e := by simp [Program.elem, h]
theorem run_sliceTo {w : World} {t e : TypeId} {base size n k : Nat} {v : Value} {xs : List Value} (hu : Try.prog.underlying t = some (.slice e)) (hz : (sizeOf e).run Try.prog w = .ok size w) (hown : w.ownsRow base e size v n xs) (hk : k ≤ n) :
    ∃ v', (Instr.sliceAt t v none (some (.int .i64 (k : Int))) none).run Try.prog w = .ok v' w ∧ Row w v' k (xs.take (k * size)) := by
  rcases hown.2 with ⟨rfl, h0⟩ | ⟨g, cap, cur, rfl, hb, hg, hnc, hr⟩
  · have hk0 : k = 0 := by omega
    subst hk0
    refine ⟨.slice none 0 0, ?_, Row.nil _ _⟩
    rw [run_sliceAt_slice w t _ _ _ _ (elem_of hu), run_slice_h w t none 0 0 (elem_of hu) .i64 _ (by omega) (by omega), elem_is hu, hz]
    simp [Result.andThen, sliced]
  · refine ⟨.slice (some ⟨g, 0, none⟩) k cap, ?_, .inr ⟨g, 0, none, cap, rfl, fun _ => rfl, fun j u hj => ?_⟩⟩
    · rw [run_sliceAt_slice w t _ _ _ _ (elem_of hu), run_slice_h w t _ n cap (elem_of hu) .i64 _ (by omega) (by omega), elem_is hu, hz]
      simp [Result.andThen, sliced, Addr.add]
    · have h1 := (List.getElem?_eq_some_iff.1 hj).1
      rw [List.length_take] at h1
      have h2 : k * size ≤ n * size := Nat.mul_le_mul_right _ hk
      rw [Nat.zero_add, hown.cellAt j (by omega), ← hj, List.getElem?_take_of_lt (by omega)]
theorem run_sliceFrom {w : World} {t e : TypeId} {base size n k : Nat} {v : Value} {xs : List Value} (hu : Try.prog.underlying t = some (.slice e)) (hz : (sizeOf e).run Try.prog w = .ok size w) (hown : w.ownsRow base e size v n xs) (hk : k ≤ n) :
    ∃ v', (Instr.sliceAt t v (some (.int .i64 (k : Int))) none none).run Try.prog w = .ok v' w ∧ Row w v' (n - k) (xs.drop (k * size)) := by
  have hlen := hown.1
  rcases hown.2 with ⟨rfl, h0⟩ | ⟨g, cap, cur, rfl, hb, hg, hnc, hr⟩
  · have hk0 : k = 0 := by omega
    subst hk0
    subst h0
    refine ⟨.slice none 0 0, ?_, Row.nil _ _⟩
    rw [run_sliceAt_slice w t _ _ _ _ (elem_of hu), run_slice_l w t none 0 0 (elem_of hu) .i64 _ (by omega) (by omega), elem_is hu, hz]
    simp [Result.andThen, sliced]
  · refine ⟨.slice (if cap = k then some ⟨g, 0, none⟩ else some ⟨g, k * size, none⟩) (n - k) (cap - k), ?_, ?_⟩
    · rw [run_sliceAt_slice w t _ _ _ _ (elem_of hu), run_slice_l w t _ n cap (elem_of hu) .i64 _ (by omega) (by omega), elem_is hu, hz]
      simp [Result.andThen, sliced, Addr.add]
      split
      · rfl
      · split <;> simp_all
    · by_cases hc : cap = k
      · rw [if_pos hc]
        refine .inr ⟨g, 0, none, cap - k, rfl, fun _ => rfl, fun j u hj => ?_⟩
        have hnk : n = k := by omega
        rw [List.drop_of_length_le (by rw [hlen, hnk]; exact Nat.le_refl _)] at hj
        simp at hj
      · rw [if_neg hc]
        refine .inr ⟨g, k * size, none, cap - k, rfl, fun _ => rfl, fun j u hj => ?_⟩
        have h1 := (List.getElem?_eq_some_iff.1 hj).1
        rw [List.length_drop, hlen] at h1
        rw [hown.cellAt (k * size + j) (by omega), ← hj, List.getElem?_drop]
theorem wpList_sliceTo (w : World) {ops : Array Oper} {rest : List Oper} {o : Oper} {a : Act} {Q : Exit → Act → World → Prop} (hgd : o.guard = none) (s x : Operand) (t e : TypeId) (base size : Nat) (hu : Try.prog.underlying t = some (.slice e)) (hz : (sizeOf e).run Try.prog w = .ok size w)
    (ho : o.op = .slice t s none (some x) none) (v : Value) (n k : Nat) (xs : List Value) (hs : a.eval s = v) (hx : a.eval x = .int .i64 (k : Int)) (hown : w.ownsRow base e size v n xs) (hk : k ≤ n)
    (h : ∀ v', Row w v' k (xs.take (k * size)) → wpList Try.prog ops Q rest (a.put o.dst v') w) : wpList Try.prog ops Q (o :: rest) a w := by
  obtain ⟨v', hr, hrow⟩ := run_sliceTo hu hz hown hk
  refine wpList_plain hgd fun K hK => ?_
  unfold Oper.wp
  simp only [execOp, ho, hs, hx, Option.map, Sem.run_bind, hr, Result.andThen_ok, Sem.run_pure]
  exact hK _ _ (h v' hrow)
theorem wpList_sliceFrom (w : World) {ops : Array Oper} {rest : List Oper} {o : Oper} {a : Act} {Q : Exit → Act → World → Prop} (hgd : o.guard = none) (s x : Operand) (t e : TypeId) (base size : Nat) (hu : Try.prog.underlying t = some (.slice e)) (hz : (sizeOf e).run Try.prog w = .ok size w)
    (ho : o.op = .slice t s (some x) none none) (v : Value) (n k : Nat) (xs : List Value) (hs : a.eval s = v) (hx : a.eval x = .int .i64 (k : Int)) (hown : w.ownsRow base e size v n xs) (hk : k ≤ n)
    (h : ∀ v', Row w v' (n - k) (xs.drop (k * size)) → wpList Try.prog ops Q rest (a.put o.dst v') w) : wpList Try.prog ops Q (o :: rest) a w := by
  obtain ⟨v', hr, hrow⟩ := run_sliceFrom hu hz hown hk
  refine wpList_plain hgd fun K hK => ?_
  unfold Oper.wp
  simp only [execOp, ho, hs, hx, Option.map, Sem.run_bind, hr, Result.andThen_ok, Sem.run_pure]
  exact hK _ _ (h v' hrow)

end Go.Proofs.Ytbldoplemfjcjaa
