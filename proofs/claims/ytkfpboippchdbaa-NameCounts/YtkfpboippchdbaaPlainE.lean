/- A label ahead of a name: plain facts on bytes, with no word of the program. -/
import Derived.Test.YtkfpboippchdbaaPlainC
namespace Go.Proofs.Ytkfpboippchdbaa.Pl

/-- How many dots. -/
def dots (l : List UInt8) : Nat := (l.filter (fun c => c.toNat = 46)).length

theorem dots_nil : dots [] = 0 := rfl
theorem dots_append (a b : List UInt8) : dots (a ++ b) = dots a + dots b := by simp [dots]
theorem dots_snoc (a : List UInt8) (c : UInt8) : dots (a ++ [c]) = dots a + if c.toNat = 46 then 1 else 0 := by
  rw [dots_append]
  congr 1
  unfold dots
  by_cases h : c.toNat = 46 <;> simp [h]
theorem dots_le (a : List UInt8) : dots a ≤ a.length := List.length_filter_le _ _

theorem dots_esc (b : UInt8) : dots (esc b) = 0 := by
  have hb := b.toNat_lt
  unfold esc
  split
  · rename_i h
    simp [standsB] at h
    unfold dots
    rw [List.filter_cons_of_neg (by simp; omega)]
    rfl
  · have e1 := toNat_of (n := 48 + b.toNat / 100) (by omega)
    have e2 := toNat_of (n := 48 + b.toNat / 10 % 10) (by omega)
    have e3 := toNat_of (n := 48 + b.toNat % 10) (by omega)
    unfold dots
    rw [List.filter_cons_of_neg (by decide), List.filter_cons_of_neg (by simp only [e1]; simp; omega), List.filter_cons_of_neg (by simp only [e2]; simp; omega), List.filter_cons_of_neg (by simp only [e3]; simp; omega)]
    rfl

theorem dots_flat (l : List UInt8) : dots (l.flatMap esc) = 0 := by
  induction l with
  | nil => rfl
  | cons b l ih => rw [List.flatMap_cons, dots_append, dots_esc, ih]

/-- A name's text has as many dots as the name has labels. -/
theorem dots_txS : ∀ (n : Nat) (l : List UInt8), l.length ≤ n → ∀ k, nmS 0 l = some k → dots (txS 0 l) = k := by
  intro n
  induction n with
  | zero =>
    intro l hl k h
    have : l = [] := List.eq_nil_of_length_eq_zero (by omega)
    subst this
    simp [nmS] at h
  | succ n ih =>
    intro l hl k h
    match l with
    | [] => simp [nmS] at h
    | c :: r =>
      by_cases h0 : c.toNat = 0
      · rw [nmS, if_pos h0] at h
        rw [txS, if_pos h0]
        split at h
        · simp only [Option.some.injEq] at h; rw [← h]; rfl
        · simp at h
      · have hs : (nmS 0 (c :: r)).isSome = true := by rw [h]; rfl
        obtain ⟨h63, hlt, hn⟩ := nmS_label hs h0
        rw [nmS, if_neg h0, if_neg (by omega), nmS_drop] at h
        obtain ⟨j, hj, hk⟩ := Option.map_eq_some_iff.1 h
        have := ih (r.drop c.toNat) (by simp at hl ⊢; omega) j hj
        rw [txS_cons h0 (by omega), dots_append, dots_flat]
        show 0 + dots ([46] ++ txS 0 (r.drop c.toNat)) = k
        rw [dots_append, this, show dots [46] = 1 from rfl]
        omega

/-- What NameCounts asks. -/
theorem ahead {s x : List UInt8} (hs : isName s = true) (h0 : 1 ≤ x.length) (h1 : x.length ≤ 40) (h2 : s.length + x.length ≤ 200) (c : UInt8) (hc : c.toNat = x.length) :
    isName (c :: (x ++ s)) = true ∧ cnt (c :: (x ++ s)) = cnt s + 1 ∧ tx (c :: (x ++ s)) = x.flatMap esc ++ 46 :: txS 0 s ∧ dots (tx (c :: (x ++ s))) = cnt s + 1 := by
  obtain ⟨h255, hsome⟩ := name_some hs
  obtain ⟨k, hk⟩ := Option.isSome_iff_exists.1 hsome
  have hn : nmS 0 (c :: (x ++ s)) = some (k + 1) := by
    rw [nmS, hc, if_neg (by omega), if_neg (by omega), nmS_drop, List.drop_left, hk]; rfl
  have hnm : nm (c :: (x ++ s)) = some (k + 1) := by rw [nm_short (by simp; omega), hn]
  have hnms : nm s = some k := by rw [nm_short h255, hk]
  have hcs : cnt s = k := by unfold cnt; rw [hnms]; rfl
  have hl : s.length ≠ 0 := by intro e; rw [List.eq_nil_of_length_eq_zero e] at hk; simp [nmS] at hk
  have ht : tx (c :: (x ++ s)) = x.flatMap esc ++ 46 :: txS 0 s := by
    unfold tx
    rw [if_neg (by simp only [List.length_cons, List.length_append]; omega), txS_cons (by omega) (by rw [hc]; simp), hc, List.drop_left, List.take_left]
  refine ⟨by unfold isName; rw [hnm]; rfl, by unfold cnt; rw [hnm, hnms]; rfl, ht, ?_⟩
  have := dots_txS _ (c :: (x ++ s)) (Nat.le_refl _) _ hn
  unfold tx
  rw [if_neg (by simp only [List.length_cons, List.length_append]; omega), this, hcs]

end Go.Proofs.Ytkfpboippchdbaa.Pl
