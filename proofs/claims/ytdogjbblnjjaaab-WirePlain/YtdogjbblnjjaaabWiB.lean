/- Messages there and back, plainly: what was written is read; what is cut is not; what was read may be. -/
import Derived.Test.YtdogjbblnjjaaabWiA
namespace Go.Proofs.Ytdogjbblnjjaaab
open Go.RowKit
open Pl

/-- What is read of a text is read of each longer one. -/
theorem rn_more {l e : List UInt8} : ∀ (f p g : Nat) (o : List UInt8) (x : Option Nat) (R : List UInt8 × Nat), rn f l p g o x = some R → rn f (l ++ e) p g o x = some R := by
  intro f
  induction f with
  | zero => intro p g o x R h; simp [rn] at h
  | succ f ih =>
    intro p g o x R h
    rw [rn] at h ⊢
    split at h
    · rename_i hp
      rw [if_pos (by rw [List.length_append]; omega), getD_app hp]
      split at h
      · rename_i h0; rw [if_pos h0]; exact h
      · rename_i h0
        rw [if_neg h0]
        split at h
        · rename_i h1
          rw [if_pos h1]
          split at h
          · rename_i h2
            rw [ptr_mono h2.1, if_pos ⟨by rw [List.length_append]; omega, h2.2⟩]
            exact ih _ _ _ _ _ h
          · simp at h
        · rename_i h1
          rw [if_neg h1]
          split at h
          · simp at h
          · rename_i h2
            rw [if_neg (by rw [List.length_append]; omega), take_app (by omega)]
            exact ih _ _ _ _ _ h
    · simp at h
theorem name_more {l : List UInt8} (e : List UInt8) {p : Nat} {R : List UInt8 × Nat} (h : nameOf l p = some R) : nameOf (l ++ e) p = some R := rn_more _ _ _ _ _ _ h
theorem data_more {l : List UInt8} (e : List UInt8) {p n : Nat} {t : Int} {d : List UInt8} (hp : p + n ≤ l.length) (h : dataOf l p n t = some d) : dataOf (l ++ e) p n t = some d := by
  by_cases h1 : t = 2 ∨ t = 5 ∨ t = 12
  · rw [data_n h1] at h ⊢
    cases hn : nameOf l p with
    | none => rw [hn] at h; simp [dtN] at h
    | some z => rw [hn] at h; rw [name_more e hn]; exact h
  · by_cases h2 : t = 15
    · subst h2
      rw [data_15] at h ⊢
      split at h
      · simp at h
      · rename_i h3
        rw [if_neg h3, take_app (by omega)]
        cases hn : nameOf l (p + 2) with
        | none => rw [hn] at h; simp [dtN] at h
        | some z => rw [hn] at h; rw [name_more e hn]; exact h
    · by_cases h3 : t = 6
      · subst h3
        rw [data_6] at h ⊢
        cases hn : nameOf l p with
        | none => rw [hn] at h; simp [dtS] at h
        | some z =>
          obtain ⟨r, b⟩ := z
          rw [hn] at h; rw [name_more e hn]
          rw [dtS] at h ⊢
          cases hn2 : nameOf l b with
          | none => rw [hn2] at h; simp [dtS2] at h
          | some z =>
            obtain ⟨r2, b2⟩ := z
            rw [hn2] at h; rw [name_more e hn2]
            rw [dtS2] at h ⊢
            split at h
            · rename_i h4
              rw [if_pos h4, take_app (by omega)]; exact h
            · simp at h
      · rw [data_o h1 h2 h3] at h ⊢
        rw [take_app hp]; exact h
theorem val_more (s e : ByteArray) (k : Nat) : ∀ n, k + n ≤ s.size → val (s ++ e) k n = val s k n := by
  intro n
  induction n with
  | zero => intro _; rfl
  | succ n ih =>
    intro h
    rw [val, val, ih (by omega), app_list, getD_app (by rw [data_len]; omega)]
theorem size_app (s e : ByteArray) : (s ++ e).size = s.size + e.size := ByteArray.size_append
theorem getQ_more {s : ByteArray} (e : ByteArray) {p : Nat} {R : Qn × Nat} (h : getQ s p = some R) : getQ (s ++ e) p = some R := by
  unfold getQ at h ⊢
  rw [app_list]
  cases hn : nameOf s.data.toList p with
  | none => rw [hn] at h; simp at h
  | some z =>
    obtain ⟨n, a⟩ := z
    rw [hn] at h; rw [name_more _ hn]
    simp only at h ⊢
    split at h
    · rename_i h1
      rw [val_more s e _ _ (by omega), val_more s e _ _ (by omega), if_pos ⟨by rw [size_app]; omega, h1.2⟩]; exact h
    · simp at h
theorem getR_more {s : ByteArray} (e : ByteArray) {p : Nat} {R : Rc × Nat} (h : getR s p = some R) : getR (s ++ e) p = some R := by
  unfold getR at h ⊢
  rw [app_list]
  cases hn : nameOf s.data.toList p with
  | none => rw [hn] at h; simp at h
  | some z =>
    obtain ⟨n, a⟩ := z
    rw [hn] at h; rw [name_more _ hn]
    simp only at h ⊢
    split at h
    · rename_i h1
      rw [val_more s e _ _ (by omega), val_more s e _ _ (by omega), val_more s e _ _ (by omega), val_more s e _ _ (by omega), if_pos (by rw [size_app]; omega)]
      cases hd : dataOf s.data.toList (a + 10) (val s (a + 8) 2).toNat (val s a 2) with
      | none => rw [hd] at h; simp at h
      | some d => rw [hd] at h; rw [data_more _ (by rw [data_len]; exact h1) hd]; exact h
    · simp at h
theorem getAll_more {α : Type} {f g : Nat → Option (α × Nat)} (hfg : ∀ p R, f p = some R → g p = some R) {p : Nat} : ∀ {k : Nat} {R : List α × Nat}, getAll f p k = some R → getAll g p k = some R := by
  intro k
  induction k with
  | zero => intro R h; exact h
  | succ k ih =>
    intro R h
    rw [getAll] at h ⊢
    cases h1 : getAll f p k with
    | none => rw [h1] at h; simp at h
    | some z =>
      obtain ⟨xs, a⟩ := z
      rw [h1] at h; rw [ih h1]
      simp only at h ⊢
      cases h2 : f a with
      | none => rw [h2] at h; simp at h
      | some y => rw [h2] at h; rw [hfg _ _ h2]; exact h
theorem part_more {α : Type} {f g : Nat → Option (α × Nat)} (hfg : ∀ p R, f p = some R → g p = some R) {k p : Nat} {R : List α × Nat} (h : part f k p = some R) : part g k p = some R := by
  unfold part at h ⊢
  split at h
  · rename_i hk; rw [if_pos hk]; exact getAll_more hfg h
  · simp at h
theorem cnt_more {s : ByteArray} (e : ByteArray) (h : 12 ≤ s.size) (i : Nat) (hi : i < 4) : cnt (s ++ e) i = cnt s i := by
  unfold cnt; rw [val_more s e _ _ (by omega)]
theorem parts_more {s : ByteArray} (e : ByteArray) (h12 : 12 ≤ s.size) {R : (List Qn × List Rc × List Rc × List Rc) × Nat} (h : parts s = some R) : parts (s ++ e) = some R := by
  unfold parts at h ⊢
  rw [cnt_more e h12 0 (by decide), cnt_more e h12 1 (by decide), cnt_more e h12 2 (by decide), cnt_more e h12 3 (by decide)]
  cases h0 : part (getQ s) (cnt s 0) 12 with
  | none => rw [h0] at h; simp at h
  | some z =>
    obtain ⟨qs, a⟩ := z
    rw [h0] at h; rw [part_more (fun _ _ => getQ_more e) h0]
    simp only at h ⊢
    cases h1 : part (getR s) (cnt s 1) a with
    | none => rw [h1] at h; simp at h
    | some z =>
      obtain ⟨an, b⟩ := z
      rw [h1] at h; rw [part_more (fun _ _ => getR_more e) h1]
      simp only at h ⊢
      cases h2 : part (getR s) (cnt s 2) b with
      | none => rw [h2] at h; simp at h
      | some z =>
        obtain ⟨ns, c⟩ := z
        rw [h2] at h; rw [part_more (fun _ _ => getR_more e) h2]
        simp only at h ⊢
        cases h3 : part (getR s) (cnt s 3) c with
        | none => rw [h3] at h; simp at h
        | some z => rw [h3] at h; rw [part_more (fun _ _ => getR_more e) h3]; exact h
/-- What has something behind it is no message. -/
theorem get_behind {s e : ByteArray} {m m' : Ms} (he : 0 < e.size) (h : getM (s ++ e) = some m) : getM s ≠ some m' := by
  intro h2
  unfold getM at h h2
  split at h2
  · rename_i h12
    cases hp : parts s with
    | none => rw [hp] at h2; simp at h2
    | some z =>
      obtain ⟨⟨qs, an, ns, ar⟩, d⟩ := z
      rw [hp] at h2
      rw [if_pos (by rw [size_app]; omega), parts_more e h12 hp] at h
      simp only at h h2
      split at h2
      · rename_i hd
        rw [if_neg (by rw [size_app]; omega)] at h
        simp at h
      · simp at h2
  · simp at h2
/-- A message that is cut is none. -/
theorem get_cut {t : ByteArray} {m : Ms} (h : getM t = some m) {k : Nat} (hk : k < t.size) : getM (t.extract 0 k) = none := by
  cases hc : getM (t.extract 0 k) with
  | none => rfl
  | some m' =>
    have e : t.extract 0 k ++ t.extract k t.size = t := by
      apply ByteArray.ext
      apply Array.toList_inj.1
      rw [app_list, ext_to, ext_from, List.take_append_drop]
    rw [← e] at h
    exact absurd hc (get_behind (by simp; omega) h)

/-- Data that was read may be. -/
theorem data_may {l : List UInt8} {p n : Nat} {t : Int} {d : List UInt8} (hp : p + n ≤ l.length) (h : dataOf l p n t = some d) : mayD t d = true := by
  by_cases h1 : t = 2 ∨ t = 5 ∨ t = 12
  · rw [data_n h1] at h
    cases hn : nameOf l p with
    | none => rw [hn] at h; simp [dtN] at h
    | some z =>
      obtain ⟨r, b⟩ := z
      rw [hn, dtN] at h
      split at h
      · simp at h; subst h
        rw [may_n h1]; exact (nameOf_some hn).1
      · simp at h
  · by_cases h2 : t = 15
    · subst h2
      rw [data_15] at h
      split at h
      · simp at h
      · rename_i h3
        cases hn : nameOf l (p + 2) with
        | none => rw [hn] at h; simp [dtN] at h
        | some z =>
          obtain ⟨r, b⟩ := z
          rw [hn, dtN] at h
          split at h
          · simp at h; subst h
            have hr := (nameOf_some hn).1
            have hl := name_ne hr
            have h2l : ((l.drop p).take 2).length = 2 := by rw [List.length_take, List.length_drop]; omega
            obtain ⟨T, hT⟩ : ∃ T, T = (l.drop p).take 2 := ⟨_, rfl⟩
            rw [← hT] at h2l ⊢
            rw [may_15, List.drop_append_of_le_length (by omega), List.drop_of_length_le (by omega), List.nil_append, hr, List.length_append]
            simp; omega
          · simp at h
    · by_cases h3 : t = 6
      · subst h3
        rw [data_6] at h
        cases hn : nameOf l p with
        | none => rw [hn] at h; simp [dtS] at h
        | some z =>
          obtain ⟨r, b⟩ := z
          rw [hn, dtS] at h
          cases hn2 : nameOf l b with
          | none => rw [hn2] at h; simp [dtS2] at h
          | some z =>
            obtain ⟨r2, b2⟩ := z
            rw [hn2, dtS2] at h
            split at h
            · simp at h; subst h
              rw [may_6, soa_names (nameOf_some hn).1 (nameOf_some hn2).1, if_pos (by rw [List.length_take, List.length_drop]; omega)]; rfl
            · simp at h
      · rw [data_o h1 h2 h3] at h
        split at h
        · rename_i h4; simp at h; rw [← h]; exact h4
        · simp at h
theorem may_top {t : Int} {l : List UInt8} (h : mayD t l = true) : 1 ≤ t ∧ t ≤ 65535 ∧ l.length ≤ 65535 := by
  refine ⟨?_, ?_, ?_⟩
  · by_cases h1 : t < 1
    · rw [may_none (.inl h1)] at h; simp at h
    · omega
  · by_cases h1 : 65535 < t
    · rw [may_none (.inr h1)] at h; simp at h
    · omega
  · by_cases h1 : 65535 < l.length
    · rw [may_long t h1] at h; simp at h
    · omega
theorem val2_in (s : ByteArray) (k : Nat) : inB 65535 (val s k 2) = true := by
  have := val_lt s k 2
  simp only [inB, decide_eq_true_eq]
  omega
theorem val4_in (s : ByteArray) (k : Nat) : inB 4294967295 (val s k 4) = true := by
  have := val_lt s k 4
  simp only [inB, decide_eq_true_eq]
  omega
theorem getQ_may {s : ByteArray} {p a : Nat} {q : Qn} (h : getQ s p = some (q, a)) : mayQ q = true ∧ a ≤ s.size ∧ p ≤ a := by
  unfold getQ at h
  cases hn : nameOf s.data.toList p with
  | none => rw [hn] at h; simp at h
  | some z =>
    obtain ⟨n, b⟩ := z
    rw [hn] at h
    simp only at h
    split at h
    · rename_i h1
      simp at h
      obtain ⟨rfl, rfl⟩ := h
      have h2 := nameOf_some hn
      have h3 := val_lt s b 2
      refine ⟨?_, h1.1, by omega⟩
      unfold mayQ
      rw [list_arr, h2.1, val2_in]
      simp; omega
    · simp at h
theorem getR_may {s : ByteArray} {p a : Nat} {r : Rc} (h : getR s p = some (r, a)) : mayR r = true ∧ a ≤ s.size ∧ p ≤ a := by
  unfold getR at h
  cases hn : nameOf s.data.toList p with
  | none => rw [hn] at h; simp at h
  | some z =>
    obtain ⟨n, b⟩ := z
    rw [hn] at h
    simp only at h
    split at h
    · rename_i h1
      cases hd : dataOf s.data.toList (b + 10) (val s (b + 8) 2).toNat (val s b 2) with
      | none => rw [hd] at h; simp at h
      | some d =>
        rw [hd] at h
        simp at h
        obtain ⟨rfl, rfl⟩ := h
        have h2 := nameOf_some hn
        refine ⟨?_, h1, by omega⟩
        unfold mayR
        simp only
        rw [h2.1, val2_in, val4_in, data_may (by rw [data_len]; exact h1) hd]; rfl
    · simp at h
theorem getAll_may {α : Type} {f : Nat → Option (α × Nat)} {g : α → Bool} {N : Nat} (hf : ∀ p x a, f p = some (x, a) → g x = true ∧ a ≤ N ∧ p ≤ a) {p : Nat} : ∀ {k a : Nat} {xs : List α}, getAll f p k = some (xs, a) → xs.all g = true ∧ (p ≤ N → a ≤ N) ∧ p ≤ a := by
  intro k
  induction k with
  | zero => intro a xs h; simp [getAll] at h; obtain ⟨rfl, rfl⟩ := h; simp
  | succ k ih =>
    intro a xs h
    rw [getAll] at h
    cases h1 : getAll f p k with
    | none => rw [h1] at h; simp at h
    | some z =>
      obtain ⟨ys, b⟩ := z
      rw [h1] at h
      simp only at h
      cases h2 : f b with
      | none => rw [h2] at h; simp at h
      | some y =>
        obtain ⟨x, c⟩ := y
        rw [h2] at h
        simp at h
        obtain ⟨rfl, rfl⟩ := h
        have := ih h1
        have h3 := hf _ _ _ h2
        refine ⟨by rw [List.all_append, this.1]; simp [h3.1], fun _ => h3.2.1, by omega⟩
theorem part_may {α : Type} {f : Nat → Option (α × Nat)} {g : α → Bool} {N : Nat} (hf : ∀ p x a, f p = some (x, a) → g x = true ∧ a ≤ N ∧ p ≤ a) {p k a : Nat} {xs : List α} (h : part f k p = some (xs, a)) : few g xs = true ∧ xs.length = k := by
  unfold part at h
  split at h
  · rename_i hk
    have h1 := getAll_len h
    refine ⟨?_, h1⟩
    unfold few
    rw [(getAll_may hf h).1, h1]; simpa using hk
  · simp at h
theorem hd_may (s : ByteArray) : mayHd (hdOf s) = true := by
  unfold mayHd hdOf
  rw [mayH_iff]
  have h1 := val_lt s 0 2
  have h2 := val_lt s 2 2
  simp only [fit_iff]
  simp
  omega
/-- What was read may be. -/
theorem get_may {s : ByteArray} {m : Ms} (h : getM s = some m) : mayM m = true := by
  unfold getM at h
  split at h
  · cases hp : parts s with
    | none => rw [hp] at h; simp at h
    | some z =>
      obtain ⟨⟨qs, an, ns, ar⟩, d⟩ := z
      rw [hp] at h
      simp only at h
      split at h
      · simp at h
        subst h
        unfold parts at hp
        cases h0 : part (getQ s) (cnt s 0) 12 with
        | none => rw [h0] at hp; simp at hp
        | some z =>
          obtain ⟨qs', a⟩ := z
          rw [h0] at hp
          simp only at hp
          cases h1 : part (getR s) (cnt s 1) a with
          | none => rw [h1] at hp; simp at hp
          | some z =>
            obtain ⟨an', b⟩ := z
            rw [h1] at hp
            simp only at hp
            cases h2 : part (getR s) (cnt s 2) b with
            | none => rw [h2] at hp; simp at hp
            | some z =>
              obtain ⟨ns', c⟩ := z
              rw [h2] at hp
              simp only at hp
              cases h3 : part (getR s) (cnt s 3) c with
              | none => rw [h3] at hp; simp at hp
              | some z =>
                obtain ⟨ar', e⟩ := z
                rw [h3] at hp
                simp at hp
                obtain ⟨⟨rfl, rfl, rfl, rfl⟩, rfl⟩ := hp
                unfold mayM
                simp only
                rw [hd_may, (part_may (N := s.size) (fun _ _ _ => getQ_may) h0).1, (part_may (N := s.size) (fun _ _ _ => getR_may) h1).1, (part_may (N := s.size) (fun _ _ _ => getR_may) h2).1, (part_may (N := s.size) (fun _ _ _ => getR_may) h3).1]; rfl
      · simp at h
  · simp at h

end Go.Proofs.Ytdogjbblnjjaaab
