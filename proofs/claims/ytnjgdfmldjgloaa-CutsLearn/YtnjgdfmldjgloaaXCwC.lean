/- CutsLearn, plainly: two cuts that learn addresses of one host. -/
import Derived.Test.YtnjgdfmldjgloaaXCwB
namespace Go.Proofs.Ytnjgdfmldjgloaa
open Go.RowKit
open Pl
namespace Cu

def xN : ByteArray := ⟨#[1, 120, 0]⟩
def yN : ByteArray := ⟨#[1, 121, 0]⟩
def lnH (hh : Nat) : ByteArray := if hh = 0 then ⟨#[1, 88, 0]⟩ else if hh = 1 then ⟨#[1, 89, 0]⟩ else if hh = 2 then ⟨#[1, 122, 0]⟩ else ⟨#[1, 97, 0]⟩
def lnA (hh : Nat) (u : Int) (S : List Int) : List Bd := if hh = 0 then S.map (fun k => ⟨0, k, u⟩) else if hh = 1 then S.map (fun k => ⟨1, k, u⟩) else []
def lnB (hh : Nat) (u : Int) (S : List Int) : List Bd := if hh = 1 then S.map (fun k => ⟨0, k, u⟩) else []
def lnF (hh : Nat) (u : Int) (S : List Int) : List Ct := [⟨⟨#[1, 97, 0]⟩, [xN, yN], rootB, 501, lnA hh u S⟩, ⟨⟨#[1, 98, 0]⟩, [yN], rootB, 501, lnB hh u S⟩]
def lnD1 : Dg := ⟨⟨#[1, 97, 0]⟩, [xN, yN], [], 500⟩
def lnD2 : Dg := ⟨⟨#[1, 98, 0]⟩, [yN], [], 500⟩
theorem lnE1 : errC lnD1 ⟨#[0]⟩ 1 = 0 := by decide
theorem lnE2 : errC lnD2 ⟨#[0]⟩ 1 = 0 := by decide
def lnF1 : List Ct := [⟨⟨#[1, 97, 0]⟩, [xN, yN], rootB, 501, []⟩]
theorem lnP1 : putC [] lnD1 ⟨#[0]⟩ 1 = lnF1 := by rfl
theorem lnP2 : putC lnF1 lnD2 ⟨#[0]⟩ 1 = [⟨⟨#[1, 97, 0]⟩, [xN, yN], rootB, 501, []⟩, ⟨⟨#[1, 98, 0]⟩, [yN], rootB, 501, []⟩] := by rfl
theorem lnF_nil (hh : Nat) (u : Int) : [⟨⟨#[1, 97, 0]⟩, [xN, yN], rootB, 501, []⟩, ⟨⟨#[1, 98, 0]⟩, [yN], rootB, 501, []⟩] = lnF hh u [] := by
  unfold lnF lnA lnB
  split <;> split <;> simp
/-- What the law has seen. -/
def stepS (u : Int) (S : List Int) (k : Int) : List Int := if 2 < u ∧ (∀ x ∈ S, x ≠ k) ∧ S.length < 16 then S ++ [k] else S
theorem live_all (i : Nat) (u : Int) (S : List Int) (h : 2 < u) : liveB 2 (S.map (fun k => (⟨i, k, u⟩ : Bd))) = S.map (fun k => ⟨i, k, u⟩) := by
  unfold liveB
  refine List.filter_eq_self.2 (fun b hb => ?_)
  obtain ⟨x, _, rfl⟩ := List.mem_map.1 hb
  simpa using h
theorem learn_map (i : Nat) (u : Int) (S : List Int) (k : Int) (h : 2 < u) : learnB (S.map (fun k => (⟨i, k, u⟩ : Bd))) ⟨i, k, u⟩ 2 = (stepS u S k).map (fun k => ⟨i, k, u⟩) := by
  unfold learnB stopB stepS
  rw [live_all i u S h, List.length_map]
  have hany : ((S.map (fun k => (⟨i, k, u⟩ : Bd))).any fun x => sameS x ⟨i, k, u⟩) = decide (k ∈ S) := by
    rw [List.any_map, Bool.eq_iff_iff, List.any_eq_true, decide_eq_true_eq]
    constructor
    · rintro ⟨x, hx, hs⟩
      have hs2 : (decide (i = i) && decide (x = k)) = true := hs
      simp only [decide_true, Bool.true_and, decide_eq_true_eq] at hs2
      rw [← hs2]; exact hx
    · intro hk
      refine ⟨k, hk, ?_⟩
      show (decide (i = i) && decide (k = k)) = true
      simp
  rw [hany]
  by_cases h1 : 16 ≤ S.length
  · rw [decide_eq_true h1, Bool.true_or, if_pos rfl, if_neg (by omega)]
  · rw [decide_eq_false h1, Bool.false_or]
    by_cases h2 : k ∈ S
    · rw [decide_eq_true h2, if_pos rfl, if_neg (fun e => e.2.1 k h2 rfl)]
    · rw [decide_eq_false h2, if_neg (by simp), if_pos ⟨h, fun x hx e => h2 (by rw [← e]; exact hx), by omega⟩]
      simp
theorem fd_h (hh : Nat) : fdB (lnH hh) = if hh = 0 then xN else if hh = 1 then yN else if hh = 2 then ⟨#[1, 122, 0]⟩ else ⟨#[1, 97, 0]⟩ := by
  unfold lnH
  split
  · rfl
  · split
    · rfl
    · split <;> rfl
theorem lrn_step (hh : Nat) (u : Int) (S : List Int) (k : Int) (hk : wideB k = true) (_hS : u ≤ 2 → S = []) : lrnC (lnF hh u S) (lnH hh) k u 2 = lnF hh u (stepS u S k) := by
  unfold lrnC
  rw [hk, Bool.true_and]
  by_cases h : 2 < u
  · rw [decide_eq_true h, if_pos rfl]
    unfold lnF
    rw [List.map_cons, List.map_cons, List.map_nil, fd_h]
    by_cases h0 : hh = 0
    · subst h0
      rw [if_pos rfl]
      congr 1
      rw [lrn_take (k := 0) (by rfl) (by show (2 : Int) < 501; omega)]
      show (⟨_, _, _, _, learnB (lnA 0 u S) ⟨0, k, u⟩ 2⟩ : Ct) = _
      unfold lnA
      rw [if_pos rfl, if_pos rfl, learn_map 0 u S k h]
    · by_cases h1 : hh = 1
      · subst h1
        rw [if_neg h0, if_pos rfl]
        congr 1
        · rw [lrn_take (k := 1) (by rfl) (by show (2 : Int) < 501; omega)]
          show (⟨_, _, _, _, learnB (lnA 1 u S) ⟨1, k, u⟩ 2⟩ : Ct) = _
          unfold lnA
          rw [if_neg h0, if_pos rfl, if_neg h0, if_pos rfl, learn_map 1 u S k h]
        · rw [lrn_take (k := 0) (by rfl) (by show (2 : Int) < 501; omega)]
          show [(⟨_, _, _, _, learnB (lnB 1 u S) ⟨0, k, u⟩ 2⟩ : Ct)] = _
          unfold lnB
          rw [if_pos rfl, if_pos rfl, learn_map 0 u S k h]
      · have e1 : lnA hh u S = [] := by unfold lnA; rw [if_neg h0, if_neg h1]
        have e2 : lnA hh u (stepS u S k) = [] := by unfold lnA; rw [if_neg h0, if_neg h1]
        have e3 : lnB hh u S = [] := by unfold lnB; rw [if_neg h1]
        have e4 : lnB hh u (stepS u S k) = [] := by unfold lnB; rw [if_neg h1]
        rw [e1, e2, e3, e4, if_neg h0, if_neg h1]
        split
        · rw [lrn_skip (fun e => absurd e (by decide)), lrn_skip (fun e => absurd e (by decide))]
        · rw [lrn_skip (fun e => absurd e (by decide)), lrn_skip (fun e => absurd e (by decide))]
  · rw [decide_eq_false h, if_neg (by simp)]
    have e : stepS u S k = S := by unfold stepS; rw [if_neg (fun e => h e.1)]
    rw [e]
theorem step_len (u : Int) (S : List Int) (k : Int) : (stepS u S k).length ≤ S.length + 1 ∧ (S.length ≤ 16 → (stepS u S k).length ≤ 16) := by
  unfold stepS
  split
  · rename_i h
    rw [List.length_append]
    exact ⟨Nat.le_refl _, fun _ => by have := h.2.2; simp; omega⟩
  · exact ⟨by omega, id⟩
theorem step_nil {u : Int} {S : List Int} {k : Int} (hS : u ≤ 2 → S = []) : u ≤ 2 → stepS u S k = [] := fun h => by
  unfold stepS
  rw [if_neg (fun e => by have := e.1; omega)]
  exact hS h
def lnX (hh : Nat) (u : Int) (k : Int) : Bn := ⟨⟨#[1, 97, 0]⟩, if hh = 0 then xN else yN, k, rootB, u⟩
theorem live_ln (i : Nat) (u : Int) (S : List Int) (hS : u ≤ 2 → S = []) : liveB 2 (S.map (fun k => (⟨i, k, u⟩ : Bd))) = S.map (fun k => ⟨i, k, u⟩) := by
  by_cases h : 2 < u
  · exact live_all i u S h
  · rw [hS (by omega)]; rfl
/-- What is told of the two cuts. -/
theorem ln_a (hh : Nat) (u : Int) (S : List Int) (hS : u ≤ 2 → S = []) : bindF Hb2 (lnF hh u S) ⟨#[1, 97, 0]⟩ 2 = if hh < 2 then S.map (lnX hh u) else [] := by
  have hl : liveF (lnF hh u S) ⟨#[1, 97, 0]⟩ 2 = some ⟨⟨#[1, 97, 0]⟩, [xN, yN], rootB, 501, lnA hh u S⟩ := by
    unfold liveF lnF
    rw [List.find?_cons_of_pos (by simp)]
    simp only
    rw [if_pos (by omega)]
  unfold bindF
  rw [show fdB ⟨#[1, 97, 0]⟩ = ⟨#[1, 97, 0]⟩ by rfl, if_neg (by decide), hl]
  simp only
  unfold lnA
  by_cases h0 : hh = 0
  · subst h0
    rw [if_pos rfl, if_pos (by omega), live_ln 0 u S hS, List.map_map]
    rfl
  · by_cases h1 : hh = 1
    · subst h1
      rw [if_neg h0, if_pos rfl, if_pos (by omega), live_ln 1 u S hS, List.map_map]
      rfl
    · rw [if_neg h0, if_neg h1, if_neg (by omega)]
      rfl
theorem ln_b (hh : Nat) (u : Int) (S : List Int) (hS : u ≤ 2 → S = []) : (bindF Hb2 (lnF hh u S) ⟨#[1, 98, 0]⟩ 2).length = if hh = 1 then S.length else 0 := by
  have hl : liveF (lnF hh u S) ⟨#[1, 98, 0]⟩ 2 = some ⟨⟨#[1, 98, 0]⟩, [yN], rootB, 501, lnB hh u S⟩ := by
    unfold liveF lnF
    rw [List.find?_cons_of_neg (by simp), List.find?_cons_of_pos (by simp)]
    simp only
    rw [if_pos (by omega)]
  unfold bindF
  rw [show fdB ⟨#[1, 98, 0]⟩ = ⟨#[1, 98, 0]⟩ by rfl, if_neg (by decide), hl]
  simp only
  unfold lnB
  by_cases h1 : hh = 1
  · rw [if_pos h1, if_pos h1, live_ln 0 u S hS]
    simp
  · rw [if_neg h1, if_neg h1]
    rfl
theorem ln_root (hh : Nat) (u : Int) (S : List Int) : bindF Hb2 (lnF hh u S) ⟨#[0]⟩ 2 = Hb2 := by
  unfold bindF
  rw [if_pos (by rfl)]
theorem ln_few (hh : Nat) (u : Int) (S : List Int) (h : S.length ≤ 16) : ∀ c ∈ lnF hh u S, c.bs.length < 256 := by
  intro c hc
  unfold lnF at hc
  simp only [List.mem_cons, List.not_mem_nil, or_false] at hc
  rcases hc with rfl | rfl
  · show (lnA hh u S).length < 256
    unfold lnA
    split
    · rw [List.length_map]; omega
    · split
      · rw [List.length_map]; omega
      · decide
  · show (lnB hh u S).length < 256
    unfold lnB
    split
    · rw [List.length_map]; omega
    · decide
theorem lnX_fold (hh : Nat) (h : hh < 2) : foldR (lnH hh).data.toList = (if hh = 0 then xN else yN).data.toList := by
  have : hh = 0 ∨ hh = 1 := by omega
  rcases this with rfl | rfl <;> rfl

end Cu
end Go.Proofs.Ytnjgdfmldjgloaa
