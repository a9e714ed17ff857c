/- Records in another row, and twice: plainly; what GroupRows walks by. -/
import Derived.Test.YtdaegnmokaibpaaSeJ
import Derived.Test.YtdaegnmokaibpaaSeL
import Derived.Test.YtdaegnmokaibpaaInA
import Derived.Test.YtdaegnmokaibpaaFoC
import Derived.Deep.RegionLaw
namespace Go.Proofs.Ytdaegnmokaibpaa
open Go.RowKit
open Pl

/-- The last m records, the last one first, each twice. -/
def trn (rs : List Rc) (m : Nat) : List Rc := ((rs.drop (rs.length - m)).reverse).flatMap (fun r => [r, r])
theorem trn_zero (rs : List Rc) : trn rs 0 = [] := by unfold trn; simp
theorem trn_succ {rs : List Rc} {m : Nat} (h : m < rs.length) : trn rs (m + 1) = trn rs m ++ [rs[rs.length - 1 - m], rs[rs.length - 1 - m]] := by
  unfold trn
  have h1 : rs.length - (m + 1) < rs.length := by omega
  rw [List.drop_eq_getElem_cons h1, List.reverse_cons, List.flatMap_append]
  have e : rs.length - (m + 1) + 1 = rs.length - m := by omega
  have e2 : rs.length - (m + 1) = rs.length - 1 - m := by omega
  rw [e]
  simp only [e2]
  rfl
theorem trn_len {rs : List Rc} : ∀ {m : Nat}, m ≤ rs.length → (trn rs m).length = 2 * m := by
  intro m
  induction m with
  | zero => intro _; rw [trn_zero]; rfl
  | succ m ih => intro h; rw [trn_succ (by omega), List.length_append, ih (by omega)]; simp; omega
theorem trn_mem (rs : List Rc) (r : Rc) : r ∈ rs ↔ r ∈ trn rs rs.length := by
  unfold trn
  rw [Nat.sub_self, List.drop_zero]
  simp
theorem trn_sub {rs : List Rc} {m : Nat} {r : Rc} (h : r ∈ trn rs m) : r ∈ rs := by
  unfold trn at h
  simp only [List.mem_flatMap, List.mem_reverse] at h
  obtain ⟨a, h1, h2⟩ := h
  have : r = a := by simpa using h2
  subst this
  exact List.mem_of_mem_drop h1
theorem trn_bad {rs : List Rc} (h : rs.length ≤ 32) : badG (trn rs rs.length) = badG rs := by
  have h1 : (trn rs rs.length).any (fun r => !okR r) = rs.any (fun r => !okR r) := by
    rw [Bool.eq_iff_iff, List.any_eq_true, List.any_eq_true]
    exact ⟨fun ⟨r, a, b⟩ => ⟨r, (trn_mem rs r).2 a, b⟩, fun ⟨r, a, b⟩ => ⟨r, (trn_mem rs r).1 a, b⟩⟩
  unfold badG
  rw [h1, trn_len (Nat.le_refl _)]
  have a1 : decide (64 < 2 * rs.length) = false := by simp; omega
  have a2 : decide (64 < rs.length) = false := by simp; omega
  rw [a1, a2]
theorem geq_as {X Y : ByteArray} (h : ltB X Y = true) : binOp .geq 9 (.string X) (.string Y) = pure (.bool false) := by
  have e : binOp .geq 9 (.string X) (.string Y) = pure (.bool !(Op.bytesLess X.toList Y.toList)) := by simp [binOp, Op.stringOp]
  rw [e]
  unfold ltB at h
  rw [h]
  rfl
theorem sn_eq {a b : Sn} : (a.n = b.n ∧ a.t = b.t ∧ a.l = b.l ∧ a.ds = b.ds) ↔ a = b := by
  constructor
  · rintro ⟨h1, h2, h3, h4⟩
    cases a; cases b
    simp_all
  · rintro rfl
    exact ⟨rfl, rfl, rfl, rfl⟩
/-- Are two sets the same? -/
def eqS (a b : Sn) : Bool := decide (a.n = b.n ∧ a.t = b.t ∧ a.l = b.l ∧ a.ds = b.ds)
theorem eqS_iff {a b : Sn} : eqS a b = true ↔ a = b := by unfold eqS; rw [decide_eq_true_eq]; exact sn_eq
/-- Is a set one of the first i? -/
def FoundIs (F : Bool) (qs : List (Sn × Value)) (s : Sn) (i : Nat) : Prop := F = true ↔ ∃ i' : Nat, ∃ hi : i' < qs.length, i' < i ∧ s = qs[i'].1
theorem found_none (qs : List (Sn × Value)) (s : Sn) : FoundIs false qs s 0 := ⟨fun h => by simp at h, fun ⟨i', _, h, _⟩ => by omega⟩
theorem found_more {qs : List (Sn × Value)} {s : Sn} {i : Nat} (h : FoundIs true qs s i) : FoundIs true qs s (i + 1) := by
  obtain ⟨i', h1, h2, h3⟩ := h.1 rfl
  exact ⟨fun _ => ⟨i', h1, by omega, h3⟩, fun _ => rfl⟩
theorem found_next {qs : List (Sn × Value)} {s : Sn} {i : Nat} (h : FoundIs false qs s i) (hi : i < qs.length) : FoundIs (eqS s qs[i].1) qs s (i + 1) := by
  unfold FoundIs
  rw [eqS_iff]
  constructor
  · intro h; exact ⟨i, hi, by omega, h⟩
  · rintro ⟨i', h1, h2, h3⟩
    by_cases e : i' = i
    · subst e; exact h3
    · have := h.2 ⟨i', h1, by omega, h3⟩
      simp at this

end Go.Proofs.Ytdaegnmokaibpaa
