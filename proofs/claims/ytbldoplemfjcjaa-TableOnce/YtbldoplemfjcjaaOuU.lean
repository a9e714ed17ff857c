/- TableOnce, plainly: what was added is taken once, or is due once. -/
import Derived.Test.YtbldoplemfjcjaaOuS
namespace Go.Proofs.Ytbldoplemfjcjaa
open Go.RowKit
open Pl
namespace Ou

/-- The one of number i. -/
def oaw (U : Nat → Int) (i : Nat) : Ak := awA ((i : Int) + 1) (i : Int) 7 (U i)
theorem oaw_mt (U : Nat → Int) (i k : Nat) : mtA (keyQ 7 (k : Int) ⟨#[1, 97, 0]⟩ 1 1) (oaw U i) = decide (i = k) := by
  unfold mtA
  rw [decide_eq_decide]
  show ((7 : Int), (i : Int), fdO ⟨#[1, 97, 0]⟩, (1 : Int), (1 : Int)) = ((7 : Int), (k : Int), fdO ⟨#[1, 97, 0]⟩, (1 : Int), (1 : Int)) ↔ _
  simp only [Prod.mk.injEq, and_true, true_and]
  omega
/-- What is left. -/
def oncD (U : Nat → Int) (G : Nat → Bool) (M : Nat) : List Ak := ((List.range M).filter fun i => !G i).map (oaw U)
theorem onc_find (U : Nat → Int) (k : Nat) : ∀ l : List Nat, (l.map (oaw U)).find? (mtA (keyQ 7 (k : Int) ⟨#[1, 97, 0]⟩ 1 1)) = if k ∈ l then some (oaw U k) else none := by
  intro l
  induction l with
  | nil => rfl
  | cons i l ih =>
    rw [List.map_cons, List.find?_cons, oaw_mt]
    by_cases h : i = k
    · subst h; simp
    · have h2 : ¬ k = i := fun e => h e.symm
      simp only [h, decide_false, ih, List.mem_cons, h2, false_or]
theorem onc_erase (U : Nat → Int) (k : Nat) : ∀ l : List Nat, l.Nodup → (l.map (oaw U)).eraseP (mtA (keyQ 7 (k : Int) ⟨#[1, 97, 0]⟩ 1 1)) = (l.filter fun i => !decide (i = k)).map (oaw U) := by
  intro l
  induction l with
  | nil => intro _; rfl
  | cons i l ih =>
    intro hn
    rw [List.nodup_cons] at hn
    rw [List.map_cons]
    by_cases h : i = k
    · subst h
      rw [List.eraseP_cons_of_pos (by rw [oaw_mt]; simp), List.filter_cons_of_neg (by simp)]
      rw [List.filter_eq_self.2 (fun a ha => by simp; intro e; subst e; exact hn.1 ha)]
    · rw [List.eraseP_cons_of_neg (by rw [oaw_mt]; simp [h]), List.filter_cons_of_pos (by simp [h]), List.map_cons, ih hn.2]
def gset (G : Nat → Bool) (k : Nat) : Nat → Bool := fun i => G i || decide (i = k)
theorem onc_mem (G : Nat → Bool) (M k : Nat) : k ∈ (List.range M).filter (fun i => !G i) ↔ k < M ∧ G k = false := by
  rw [List.mem_filter, List.mem_range]; simp
theorem onc_yes (U : Nat → Int) (G : Nat → Bool) (M k : Nat) (h1 : k < M) (h2 : G k = false) : takeX (keyQ 7 (k : Int) ⟨#[1, 97, 0]⟩ 1 1) (oncD U G M) = oaw U k ∧ takeE (keyQ 7 (k : Int) ⟨#[1, 97, 0]⟩ 1 1) (oncD U G M) = 0 ∧ (oncD U G M).eraseP (mtA (keyQ 7 (k : Int) ⟨#[1, 97, 0]⟩ 1 1)) = oncD U (gset G k) M := by
  have hf := onc_find U k ((List.range M).filter fun i => !G i)
  rw [if_pos ((onc_mem G M k).2 ⟨h1, h2⟩)] at hf
  refine ⟨by unfold takeX oncD; rw [hf]; rfl, by unfold takeE oncD; rw [hf]; rfl, ?_⟩
  unfold oncD
  rw [onc_erase U k _ (List.Nodup.sublist List.filter_sublist List.nodup_range), List.filter_filter]
  refine congrArg _ (List.filter_congr (fun i _ => ?_))
  unfold gset
  cases G i <;> simp
theorem onc_no (U : Nat → Int) (G : Nat → Bool) (M k : Nat) (h : M ≤ k ∨ G k = true) : takeX (keyQ 7 (k : Int) ⟨#[1, 97, 0]⟩ 1 1) (oncD U G M) = akZ ∧ takeE (keyQ 7 (k : Int) ⟨#[1, 97, 0]⟩ 1 1) (oncD U G M) = 1902 ∧ (oncD U G M).eraseP (mtA (keyQ 7 (k : Int) ⟨#[1, 97, 0]⟩ 1 1)) = oncD U G M := by
  have hn : ¬ k ∈ (List.range M).filter fun i => !G i := fun e => by
    have := (onc_mem G M k).1 e
    rcases h with h | h
    · omega
    · rw [this.2] at h; cases h
  have hf := onc_find U k ((List.range M).filter fun i => !G i)
  rw [if_neg hn] at hf
  refine ⟨by unfold takeX oncD; rw [hf]; rfl, by unfold takeE oncD; rw [hf]; rfl, ?_⟩
  unfold oncD
  exact List.eraseP_of_forall_not (fun x hx => by simpa using List.find?_eq_none.1 hf x hx)
/-- Of the first i: those that are due, and those that are not. -/
def onA (U : Nat → Int) (G : Nat → Bool) (nv : Int) (i : Nat) : List Ak := ((List.range i).filter fun j => !G j && decide (U j ≤ nv)).map (oaw U)
def onR (U : Nat → Int) (G : Nat → Bool) (nv : Int) (i : Nat) : List Ak := ((List.range i).filter fun j => !G j && !decide (U j ≤ nv)).map (oaw U)
theorem onc_due (U : Nat → Int) (G : Nat → Bool) (nv : Int) (M : Nat) : (oncD U G M).filter (dueA nv) = onA U G nv M ∧ ((oncD U G M).filter fun x => !dueA nv x) = onR U G nv M := by
  unfold oncD onA onR
  refine ⟨?_, ?_⟩
  · rw [List.filter_map, List.filter_filter]
    refine congrArg _ (List.filter_congr (fun j _ => ?_))
    show (decide (U j ≤ nv) && !G j) = _
    rw [Bool.and_comm]
  · rw [List.filter_map, List.filter_filter]
    refine congrArg _ (List.filter_congr (fun j _ => ?_))
    show (!decide (U j ≤ nv) && !G j) = _
    rw [Bool.and_comm]
theorem onR_due (U : Nat → Int) (G : Nat → Bool) (nv : Int) (M : Nat) : (onR U G nv M).filter (dueA nv) = [] := by
  unfold onR
  rw [List.filter_map, List.filter_filter, List.filter_eq_nil_iff.2 (fun j _ h => ?_)]
  · rfl
  · have h' : (decide (U j ≤ nv) && (!G j && !decide (U j ≤ nv))) = true := h
    cases hq : decide (U j ≤ nv) <;> rw [hq] at h' <;> simp at h'
theorem onA_next (U : Nat → Int) (G : Nat → Bool) (nv : Int) (i : Nat) : onA U G nv (i + 1) = onA U G nv i ++ (if !G i && decide (U i ≤ nv) then [oaw U i] else []) := by
  unfold onA
  rw [List.range_succ, List.filter_append, List.map_append, List.filter_cons]
  cases (!G i && decide (U i ≤ nv)) <;> rfl
theorem onR_next (U : Nat → Int) (G : Nat → Bool) (nv : Int) (i : Nat) : onR U G nv (i + 1) = onR U G nv i ++ (if !G i && !decide (U i ≤ nv) then [oaw U i] else []) := by
  unfold onR
  rw [List.range_succ, List.filter_append, List.map_append, List.filter_cons]
  cases (!G i && !decide (U i ≤ nv)) <;> rfl
theorem onA_pre (U : Nat → Int) (G : Nat → Bool) (nv : Int) {i M : Nat} (h : i ≤ M) : ∃ s, onA U G nv M = onA U G nv i ++ s := by
  induction M with
  | zero => exact ⟨[], by rw [show i = 0 from by omega]; simp⟩
  | succ M ih =>
    by_cases e : i = M + 1
    · subst e; exact ⟨[], by simp⟩
    · obtain ⟨s, hs⟩ := ih (by omega)
      exact ⟨s ++ _, by rw [onA_next, hs, List.append_assoc]⟩
theorem onc_start (U : Nat → Int) (M : Nat) : oncD U (fun _ => false) M = (List.range M).map (oaw U) := by
  unfold oncD
  exact congrArg _ (List.filter_eq_self.2 (fun _ _ => rfl))

/-- Who is gone, as a row. -/
def gC (G : Nat → Bool) (M : Nat) : List Value := (List.range M).map fun i => Value.bool (G i)
theorem gC_len (G : Nat → Bool) (M : Nat) : (gC G M).length = M := by simp [gC]
theorem gC_at (G : Nat → Bool) {M i : Nat} (h : i < M) : (gC G M)[i]? = some (.bool (G i)) := by simp [gC, h]
theorem gC_set (G : Nat → Bool) {M k : Nat} : (gC G M).set k (.bool true) = gC (gset G k) M := by
  apply List.ext_getElem?
  intro i
  by_cases hi : i < M
  · by_cases e : i = k
    · subst e
      rw [List.getElem?_set_self (by rw [gC_len]; exact hi), gC_at _ hi]
      simp [gset]
    · rw [List.getElem?_set_ne (fun q => e q.symm), gC_at _ hi, gC_at _ hi]
      simp [gset, e]
  · rw [List.getElem?_eq_none (by rw [List.length_set, gC_len]; omega), List.getElem?_eq_none (by rw [gC_len]; omega)]
theorem gC_made (M : Nat) : (madeCells (Value.bool false).cells (M * 1)).toList = gC (fun _ => false) M := by
  apply List.ext_getElem?
  intro j
  unfold madeCells
  rw [Array.getElem?_toList, Array.getElem?_map, Array.getElem?_range]
  by_cases hj : j < M
  · rw [if_pos (by omega), gC_at _ hj]
    simp [Value.cells, Nat.mod_one]
  · rw [if_neg (by omega), List.getElem?_eq_none (by rw [gC_len]; omega)]
    rfl
theorem infoBo : (Try.prog.info? 4).map (fun i => (i.zero, i.size, i.bytes)) = some (some (.bool false), 1, 1) := by kernel_rfl

end Ou
end Go.Proofs.Ytbldoplemfjcjaa
