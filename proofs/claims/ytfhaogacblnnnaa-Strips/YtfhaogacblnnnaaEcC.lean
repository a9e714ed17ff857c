/- Rows of the call's own that are cleared, cut and set. -/
import Derived.Test.YtfhaogacblnnnaaEcA
import Derived.Laws.IdiomCopy
namespace Go.Proofs.Ytfhaogacblnnnaa
open Go.RowKit

theorem cells_own {B e z n cap g : Nat} : ∀ (vs : List Value) (o : Nat) (w : World) (xs : List Value), w.ownsRow B e z (.slice (some ⟨g, 0, none⟩) n cap) n xs →
    ∃ xs', (w.setCells g o vs).ownsRow B e z (.slice (some ⟨g, 0, none⟩) n cap) n xs' ∧ xs'.take o = xs.take o ∧ Turn (fun k => k = g) w (w.setCells g o vs) := by
  intro vs
  induction vs with
  | nil => intro o w xs h; exact ⟨xs, h, rfl, Turn.refl _ _⟩
  | cons v vs ih =>
    intro o w xs h
    obtain ⟨xs', h1, h2, h3⟩ := ih (o + 1) _ _ (h.stored o v).1
    refine ⟨xs', h1, ?_, (Turn.of_set (S := fun k => k = g) w (p := ⟨g, o, none⟩) rfl v).same h3⟩
    have := congrArg (List.take o) h2
    rw [List.take_take, List.take_take, Nat.min_eq_left (by omega)] at this
    rw [this, List.take_set_of_le (Nat.le_refl _)]

theorem own_cut {w : World} {B e z n cap g : Nat} {xs : List Value} (h : w.ownsRow B e z (.slice (some ⟨g, 0, none⟩) n cap) n xs) {i : Nat} (hi : i ≤ n) : w.ownsRow B e z (.slice (some ⟨g, 0, none⟩) i cap) i (xs.take (i * z)) := by
  have hle : i * z ≤ n * z := Nat.mul_le_mul_right _ hi
  refine ⟨by rw [List.length_take, h.1, Nat.min_eq_left hle], ?_⟩
  rcases h.2 with ⟨h1, _⟩ | ⟨g', cap', cur, h1, hb, hg, hnc, hcm, hcs, ht⟩
  · simp at h1
  · simp only [Value.slice.injEq, Option.some.injEq, Addr.mk.injEq, and_true, true_and] at h1
    obtain ⟨rfl, rfl⟩ := h1
    refine .inr ⟨g, cap, cur, rfl, hb, hg, by omega, hcm, hcs, ?_⟩
    rw [← ht, List.take_take, Nat.min_eq_left hle]

/-- A row's end is cleared. -/
theorem clear_own {w : World} {B n cap g i : Nat} {xs : List Value} (h : w.ownsRow B 33 2 (.slice (some ⟨g, 0, none⟩) n cap) n xs) (hi : i < n) : ∃ wc xs', (∀ (ty : TypeId) (c : Nat), (Builtin.clear_ #[22] ty #[.slice (some ⟨g, i * 2, none⟩) (n - i) c]).run Try.prog w = .ok (.tuple #[]) wc) ∧
    wc.ownsRow B 33 2 (.slice (some ⟨g, 0, none⟩) n cap) n xs' ∧ xs'.take (i * 2) = xs.take (i * 2) ∧ Turn (fun k => k = g) w wc := by
  obtain ⟨vs, hvs⟩ : ∃ vs, vs = (Builtin.zeroCells (Value.agg #[.int .i64 0, .string ⟨#[]⟩]).cells (n - i)).toList := ⟨_, rfl⟩
  have hl : vs.length = (n - i) * 2 := by rw [hvs]; simp [Builtin.zeroCells, Value.cells]
  have h1 : ∀ v ∈ vs, v.oneCell' = true := by
    intro v hv
    rw [hvs] at hv
    simp only [Builtin.zeroCells, Value.cells, Array.toList_map, List.mem_map] at hv
    obtain ⟨j, _, rfl⟩ := hv
    have : j % 2 < 2 := Nat.mod_lt _ (by decide)
    have : j % 2 = 0 ∨ j % 2 = 1 := by omega
    rcases this with e | e
    · show ((#[Value.int .i64 0, .string ⟨#[]⟩] : Array Value)[j % 2]!).oneCell' = true
      rw [e]; rfl
    · show ((#[Value.int .i64 0, .string ⟨#[]⟩] : Array Value)[j % 2]!).oneCell' = true
      rw [e]; rfl
  obtain ⟨xs', h2, h3, h4⟩ := cells_own vs (i * 2) w xs h
  refine ⟨w.setCells g (i * 2) vs, xs', fun ty c => ?_, h2, h3, h4⟩
  have hst := run_storeCells_cells (P := Try.prog) g (i * 2) vs 0 w (fun j hj => by
    rw [h.cellAt _ (by omega), List.getElem?_eq_getElem (by rw [h.1]; omega)]; rfl) (fun j _ => h.frozenAt _) h1
  rw [Nat.add_zero, hvs] at hst
  obtain ⟨m, hm⟩ : ∃ m, n - i = m + 1 := ⟨n - i - 1, by omega⟩
  rw [hvs]
  rw [hm] at hst ⊢
  simp [Builtin.clear_, run_underlying Try.underlying22, hst]

/-- One option of a row is set. -/
theorem oC_set (l : List On) (i : Nat) (q : On) (_hi : i < l.length) : ((oC l).set (i * 2) (.int .i64 q.c)).set (i * 2 + 1) (.string q.d) = oC (l.set i q) := by
  apply List.ext_getElem?
  intro j
  have hlen : (oC l).length = l.length * 2 := oC_len l
  by_cases hj : j < l.length * 2
  · have hd : j / 2 < l.length := by omega
    have hd' : j / 2 < (l.set i q).length := by rw [List.length_set]; exact hd
    have e : j / 2 * 2 + j % 2 = j := by omega
    have a1 := oC_at hd' (j % 2) (Nat.mod_lt _ (by decide))
    have a2 := oC_at hd (j % 2) (Nat.mod_lt _ (by decide))
    rw [e] at a1 a2
    rw [a1, List.getElem_set]
    by_cases h0 : j = i * 2 + 1
    · subst h0
      rw [List.getElem?_set_self (by rw [List.length_set, hlen]; exact hj), if_pos (by omega), show (i * 2 + 1) % 2 = 1 from by omega]
      rfl
    · rw [List.getElem?_set_ne (fun e => h0 e.symm)]
      by_cases h1 : j = i * 2
      · subst h1
        rw [List.getElem?_set_self (by rw [hlen]; exact hj), if_pos (by omega), show (i * 2) % 2 = 0 from by omega]
        rfl
      · rw [List.getElem?_set_ne (fun e => h1 e.symm), a2, if_neg (by omega)]
  · rw [List.getElem?_eq_none (by simp [hlen]; omega), List.getElem?_eq_none (by rw [oC_len, List.length_set]; omega)]

theorem oC_take (l : List On) (a : Nat) (h : a ≤ l.length) : (oC l).take (a * 2) = oC (l.take a) := by
  have e : oC l = oC (l.take a) ++ oC (l.drop a) := by rw [← oC_app, List.take_append_drop]
  have hl : (oC (l.take a)).length = a * 2 := by rw [oC_len, List.length_take]; omega
  rw [e]
  exact List.take_left' hl

end Go.Proofs.Ytfhaogacblnnnaa
