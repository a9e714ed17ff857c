/- Messages there and back, plainly: what was written is read; what is cut is not; what was read may be. -/
import Derived.Test.YtbffnicfibfceaaXP4
namespace Go.Proofs.Ytbffnicfibfceaa
open Go.RowKit
open Pl

/-- What is read of a text is read of each longer one. -/
theorem rn_more {l e : List UInt8} : ∀ (f p g : Nat) (o : List UInt8) (x : Option Nat) (R : List UInt8 × Nat), rn f l p g o x = some R → rn f (l ++ e) p g o x = some R := by
  intro f
  induction f with
  | zero => intro p g o x R h; simp [rn] at h
  | succ f ih =>
    intro p g o x R h
    rw [rn] at h ⊢
    split at h
    · rename_i hp
      rw [if_pos (by rw [List.length_append]; omega), getD_app hp]
      split at h
      · rename_i h0; rw [if_pos h0]; exact h
      · rename_i h0
        rw [if_neg h0]
        split at h
        · rename_i h1
          rw [if_pos h1]
          split at h
          · rename_i h2
            rw [ptr_mono h2.1, if_pos ⟨by rw [List.length_append]; omega, h2.2⟩]
            exact ih _ _ _ _ _ h
          · simp at h
        · rename_i h1
          rw [if_neg h1]
          split at h
          · simp at h
          · rename_i h2
            rw [if_neg (by rw [List.length_append]; omega), take_app (by omega)]
            exact ih _ _ _ _ _ h
    · simp at h
theorem name_more {l : List UInt8} (e : List UInt8) {p : Nat} {R : List UInt8 × Nat} (h : nameOf l p = some R) : nameOf (l ++ e) p = some R := rn_more _ _ _ _ _ _ h
theorem data_more {l : List UInt8} (e : List UInt8) {p n : Nat} {t : Int} {d : List UInt8} (hp : p + n ≤ l.length) (h : dataOf l p n t = some d) : dataOf (l ++ e) p n t = some d := by
  by_cases h1 : t = 2 ∨ t = 5 ∨ t = 12
  · rw [data_n h1] at h ⊢
    cases hn : nameOf l p with
    | none => rw [hn] at h; simp [dtN] at h
    | some z => rw [hn] at h; rw [name_more e hn]; exact h
  · by_cases h2 : t = 15
    · subst h2
      rw [data_15] at h ⊢
      split at h
      · simp at h
      · rename_i h3
        rw [if_neg h3, take_app (by omega)]
        cases hn : nameOf l (p + 2) with
        | none => rw [hn] at h; simp [dtN] at h
        | some z => rw [hn] at h; rw [name_more e hn]; exact h
    · by_cases h3 : t = 6
      · subst h3
        rw [data_6] at h ⊢
        cases hn : nameOf l p with
        | none => rw [hn] at h; simp [dtS] at h
        | some z =>
          obtain ⟨r, b⟩ := z
          rw [hn] at h; rw [name_more e hn]
          rw [dtS] at h ⊢
          cases hn2 : nameOf l b with
          | none => rw [hn2] at h; simp [dtS2] at h
          | some z =>
            obtain ⟨r2, b2⟩ := z
            rw [hn2] at h; rw [name_more e hn2]
            rw [dtS2] at h ⊢
            split at h
            · rename_i h4
              rw [if_pos h4, take_app (by omega)]; exact h
            · simp at h
      · rw [data_o h1 h2 h3] at h ⊢
        rw [take_app hp]; exact h
theorem val_more (s e : ByteArray) (k : Nat) : ∀ n, k + n ≤ s.size → val (s ++ e) k n = val s k n := by
  intro n
  induction n with
  | zero => intro _; rfl
  | succ n ih =>
    intro h
    rw [val, val, ih (by omega), app_list, getD_app (by rw [data_len]; omega)]
theorem size_app (s e : ByteArray) : (s ++ e).size = s.size + e.size := ByteArray.size_append
theorem getQ_more {s : ByteArray} (e : ByteArray) {p : Nat} {R : Qn × Nat} (h : getQ s p = some R) : getQ (s ++ e) p = some R := by
  unfold getQ at h ⊢
  rw [app_list]
  cases hn : nameOf s.data.toList p with
  | none => rw [hn] at h; simp at h
  | some z =>
    obtain ⟨n, a⟩ := z
    rw [hn] at h; rw [name_more _ hn]
    simp only at h ⊢
    split at h
    · rename_i h1
      rw [val_more s e _ _ (by omega), val_more s e _ _ (by omega), if_pos ⟨by rw [size_app]; omega, h1.2⟩]; exact h
    · simp at h
theorem getR_more {s : ByteArray} (e : ByteArray) {p : Nat} {R : Rc × Nat} (h : getR s p = some R) : getR (s ++ e) p = some R := by
  unfold getR at h ⊢
  rw [app_list]
  cases hn : nameOf s.data.toList p with
  | none => rw [hn] at h; simp at h
  | some z =>
    obtain ⟨n, a⟩ := z
    rw [hn] at h; rw [name_more _ hn]
    simp only at h ⊢
    split at h
    · rename_i h1
      rw [val_more s e _ _ (by omega), val_more s e _ _ (by omega), val_more s e _ _ (by omega), val_more s e _ _ (by omega), if_pos (by rw [size_app]; omega)]
      cases hd : dataOf s.data.toList (a + 10) (val s (a + 8) 2).toNat (val s a 2) with
      | none => rw [hd] at h; simp at h
      | some d => rw [hd] at h; rw [data_more _ (by rw [data_len]; exact h1) hd]; exact h
    · simp at h
theorem getAll_more {α : Type} {f g : Nat → Option (α × Nat)} (hfg : ∀ p R, f p = some R → g p = some R) {p : Nat} : ∀ {k : Nat} {R : List α × Nat}, getAll f p k = some R → getAll g p k = some R := by
  intro k
  induction k with
  | zero => intro R h; exact h
  | succ k ih =>
    intro R h
    rw [getAll] at h ⊢
    cases h1 : getAll f p k with
    | none => rw [h1] at h; simp at h
    | some z =>
      obtain ⟨xs, a⟩ := z
      rw [h1] at h; rw [ih h1]
      simp only at h ⊢
      cases h2 : f a with
      | none => rw [h2] at h; simp at h
      | some y => rw [h2] at h; rw [hfg _ _ h2]; exact h
theorem part_more {α : Type} {f g : Nat → Option (α × Nat)} (hfg : ∀ p R, f p = some R → g p = some R) {k p : Nat} {R : List α × Nat} (h : part f k p = some R) : part g k p = some R := by
  unfold part at h ⊢
  split at h
  · rename_i hk; rw [if_pos hk]; exact getAll_more hfg h
  · simp at h
theorem cnt_more {s : ByteArray} (e : ByteArray) (h : 12 ≤ s.size) (i : Nat) (hi : i < 4) : cnt (s ++ e) i = cnt s i := by
  unfold cnt; rw [val_more s e _ _ (by omega)]
theorem parts_more {s : ByteArray} (e : ByteArray) (h12 : 12 ≤ s.size) {R : (List Qn × List Rc × List Rc × List Rc) × Nat} (h : parts s = some R) : parts (s ++ e) = some R := by
  unfold parts at h ⊢
  rw [cnt_more e h12 0 (by decide), cnt_more e h12 1 (by decide), cnt_more e h12 2 (by decide), cnt_more e h12 3 (by decide)]
  cases h0 : part (getQ s) (cnt s 0) 12 with
  | none => rw [h0] at h; simp at h
  | some z =>
    obtain ⟨qs, a⟩ := z
    rw [h0] at h; rw [part_more (fun _ _ => getQ_more e) h0]
    simp only at h ⊢
    cases h1 : part (getR s) (cnt s 1) a with
    | none => rw [h1] at h; simp at h
    | some z =>
      obtain ⟨an, b⟩ := z
      rw [h1] at h; rw [part_more (fun _ _ => getR_more e) h1]
      simp only at h ⊢
      cases h2 : part (getR s) (cnt s 2) b with
      | none => rw [h2] at h; simp at h
      | some z =>
        obtain ⟨ns, c⟩ := z
        rw [h2] at h; rw [part_more (fun _ _ => getR_more e) h2]
        simp only at h ⊢
        cases h3 : part (getR s) (cnt s 3) c with
        | none => rw [h3] at h; simp at h
        | some z => rw [h3] at h; rw [part_more (fun _ _ => getR_more e) h3]; exact h
/-- What has something behind it is no message. -/
theorem get_behind {s e : ByteArray} {m m' : Ms} (he : 0 < e.size) (h : getM (s ++ e) = some m) : getM s ≠ some m' := by
  intro h2
  unfold getM at h h2
  split at h2
  · rename_i h12
    cases hp : parts s with
    | none => rw [hp] at h2; simp at h2
    | some z =>
      obtain ⟨⟨qs, an, ns, ar⟩, d⟩ := z
      rw [hp] at h2
      rw [if_pos (by rw [size_app]; omega), parts_more e h12 hp] at h
      simp only at h h2
      split at h2
      · rename_i hd
        rw [if_neg (by rw [size_app]; omega)] at h
        simp at h
      · simp at h2
  · simp at h2
/-- A message that is cut is none. -/
theorem get_cut {t : ByteArray} {m : Ms} (h : getM t = some m) {k : Nat} (hk : k < t.size) : getM (t.extract 0 k) = none := by
  cases hc : getM (t.extract 0 k) with
  | none => rfl
  | some m' =>
    have e : t.extract 0 k ++ t.extract k t.size = t := by
      apply ByteArray.ext
      apply Array.toList_inj.1
      rw [app_list, ext_to, ext_from, List.take_append_drop]
    rw [← e] at h
    exact absurd hc (get_behind (by simp; omega) h)

/-- Data that was read may be. -/
theorem data_may {l : List UInt8} {p n : Nat} {t : Int} {d : List UInt8} (hp : p + n ≤ l.length) (h : dataOf l p n t = some d) : mayD t d = true := by
  by_cases h1 : t = 2 ∨ t = 5 ∨ t = 12
  · rw [data_n h1] at h
    cases hn : nameOf l p with
    | none => rw [hn] at h; simp [dtN] at h
    | some z =>
      obtain ⟨r, b⟩ := z
      rw [hn, dtN] at h
      split at h
      · simp at h; subst h
        rw [may_n h1]; exact (nameOf_some hn).1
      · simp at h
  · by_cases h2 : t = 15
    · subst h2
      rw [data_15] at h
      split at h
      · simp at h
      · rename_i h3
        cases hn : nameOf l (p + 2) with
        | none => rw [hn] at h; simp [dtN] at h
        | some z =>
          obtain ⟨r, b⟩ := z
          rw [hn, dtN] at h
          split at h
          · simp at h; subst h
            have hr := (nameOf_some hn).1
            have hl := name_ne hr
            have h2l : ((l.drop p).take 2).length = 2 := by rw [List.length_take, List.length_drop]; omega
            obtain ⟨T, hT⟩ : ∃ T, T = (l.drop p).take 2 := ⟨_, rfl⟩
            rw [← hT] at h2l ⊢
            rw [may_15, List.drop_append_of_le_length (by omega), List.drop_of_length_le (by omega), List.nil_append, hr, List.length_append]
            simp; omega
          · simp at h
    · by_cases h3 : t = 6
      · subst h3
        rw [data_6] at h
        cases hn : nameOf l p with
        | none => rw [hn] at h; simp [dtS] at h
        | some z =>
          obtain ⟨r, b⟩ := z
          rw [hn, dtS] at h
          cases hn2 : nameOf l b with
          | none => rw [hn2] at h; simp [dtS2] at h
          | some z =>
            obtain ⟨r2, b2⟩ := z
            rw [hn2, dtS2] at h
            split at h
            · simp at h; subst h
              rw [may_6, soa_names (nameOf_some hn).1 (nameOf_some hn2).1, if_pos (by rw [List.length_take, List.length_drop]; omega)]; rfl
            · simp at h
      · rw [data_o h1 h2 h3] at h
        split at h
        · rename_i h4; simp at h; rw [← h]; exact h4
        · simp at h
theorem may_top {t : Int} {l : List UInt8} (h : mayD t l = true) : 1 ≤ t ∧ t ≤ 65535 ∧ l.length ≤ 65535 := by
  refine ⟨?_, ?_, ?_⟩
  · by_cases h1 : t < 1
    · rw [may_none (.inl h1)] at h; simp at h
    · omega
  · by_cases h1 : 65535 < t
    · rw [may_none (.inr h1)] at h; simp at h
    · omega
  · by_cases h1 : 65535 < l.length
    · rw [may_long t h1] at h; simp at h
    · omega
theorem val2_in (s : ByteArray) (k : Nat) : inB 65535 (val s k 2) = true := by
  have := val_lt s k 2
  simp only [inB, decide_eq_true_eq]
  omega
theorem val4_in (s : ByteArray) (k : Nat) : inB 4294967295 (val s k 4) = true := by
  have := val_lt s k 4
  simp only [inB, decide_eq_true_eq]
  omega
theorem getQ_may {s : ByteArray} {p a : Nat} {q : Qn} (h : getQ s p = some (q, a)) : mayQ q = true ∧ a ≤ s.size ∧ p ≤ a := by
  unfold getQ at h
  cases hn : nameOf s.data.toList p with
  | none => rw [hn] at h; simp at h
  | some z =>
    obtain ⟨n, b⟩ := z
    rw [hn] at h
    simp only at h
    split at h
    · rename_i h1
      simp at h
      obtain ⟨rfl, rfl⟩ := h
      have h2 := nameOf_some hn
      have h3 := val_lt s b 2
      refine ⟨?_, h1.1, by omega⟩
      unfold mayQ
      rw [list_arr, h2.1, val2_in]
      simp; omega
    · simp at h
theorem getR_may {s : ByteArray} {p a : Nat} {r : Rc} (h : getR s p = some (r, a)) : mayR r = true ∧ a ≤ s.size ∧ p ≤ a := by
  unfold getR at h
  cases hn : nameOf s.data.toList p with
  | none => rw [hn] at h; simp at h
  | some z =>
    obtain ⟨n, b⟩ := z
    rw [hn] at h
    simp only at h
    split at h
    · rename_i h1
      cases hd : dataOf s.data.toList (b + 10) (val s (b + 8) 2).toNat (val s b 2) with
      | none => rw [hd] at h; simp at h
      | some d =>
        rw [hd] at h
        simp at h
        obtain ⟨rfl, rfl⟩ := h
        have h2 := nameOf_some hn
        refine ⟨?_, h1, by omega⟩
        unfold mayR
        simp only
        rw [h2.1, val2_in, val4_in, data_may (by rw [data_len]; exact h1) hd]; rfl
    · simp at h
theorem getAll_may {α : Type} {f : Nat → Option (α × Nat)} {g : α → Bool} {N : Nat} (hf : ∀ p x a, f p = some (x, a) → g x = true ∧ a ≤ N ∧ p ≤ a) {p : Nat} : ∀ {k a : Nat} {xs : List α}, getAll f p k = some (xs, a) → xs.all g = true ∧ (p ≤ N → a ≤ N) ∧ p ≤ a := by
  intro k
  induction k with
  | zero => intro a xs h; simp [getAll] at h; obtain ⟨rfl, rfl⟩ := h; simp
  | succ k ih =>
    intro a xs h
    rw [getAll] at h
    cases h1 : getAll f p k with
    | none => rw [h1] at h; simp at h
    | some z =>
      obtain ⟨ys, b⟩ := z
      rw [h1] at h
      simp only at h
      cases h2 : f b with
      | none => rw [h2] at h; simp at h
      | some y =>
        obtain ⟨x, c⟩ := y
        rw [h2] at h
        simp at h
        obtain ⟨rfl, rfl⟩ := h
        have := ih h1
        have h3 := hf _ _ _ h2
        refine ⟨by rw [List.all_append, this.1]; simp [h3.1], fun _ => h3.2.1, by omega⟩
theorem part_may {α : Type} {f : Nat → Option (α × Nat)} {g : α → Bool} {N : Nat} (hf : ∀ p x a, f p = some (x, a) → g x = true ∧ a ≤ N ∧ p ≤ a) {p k a : Nat} {xs : List α} (h : part f k p = some (xs, a)) : few g xs = true ∧ xs.length = k := by
  unfold part at h
  split at h
  · rename_i hk
    have h1 := getAll_len h
    refine ⟨?_, h1⟩
    unfold few
    rw [(getAll_may hf h).1, h1]; simpa using hk
  · simp at h
theorem hd_may (s : ByteArray) : mayHd (hdOf s) = true := by
  unfold mayHd hdOf
  rw [mayH_iff]
  have h1 := val_lt s 0 2
  have h2 := val_lt s 2 2
  simp only [fit_iff]
  simp
  omega
/-- What was read may be. -/
theorem get_may {s : ByteArray} {m : Ms} (h : getM s = some m) : mayM m = true := by
  unfold getM at h
  split at h
  · cases hp : parts s with
    | none => rw [hp] at h; simp at h
    | some z =>
      obtain ⟨⟨qs, an, ns, ar⟩, d⟩ := z
      rw [hp] at h
      simp only at h
      split at h
      · simp at h
        subst h
        unfold parts at hp
        cases h0 : part (getQ s) (cnt s 0) 12 with
        | none => rw [h0] at hp; simp at hp
        | some z =>
          obtain ⟨qs', a⟩ := z
          rw [h0] at hp
          simp only at hp
          cases h1 : part (getR s) (cnt s 1) a with
          | none => rw [h1] at hp; simp at hp
          | some z =>
            obtain ⟨an', b⟩ := z
            rw [h1] at hp
            simp only at hp
            cases h2 : part (getR s) (cnt s 2) b with
            | none => rw [h2] at hp; simp at hp
            | some z =>
              obtain ⟨ns', c⟩ := z
              rw [h2] at hp
              simp only at hp
              cases h3 : part (getR s) (cnt s 3) c with
              | none => rw [h3] at hp; simp at hp
              | some z =>
                obtain ⟨ar', e⟩ := z
                rw [h3] at hp
                simp at hp
                obtain ⟨⟨rfl, rfl, rfl, rfl⟩, rfl⟩ := hp
                unfold mayM
                simp only
                rw [hd_may, (part_may (N := s.size) (fun _ _ _ => getQ_may) h0).1, (part_may (N := s.size) (fun _ _ _ => getR_may) h1).1, (part_may (N := s.size) (fun _ _ _ => getR_may) h2).1, (part_may (N := s.size) (fun _ _ _ => getR_may) h3).1]; rfl
      · simp at h
  · simp at h

end Go.Proofs.Ytbffnicfibfceaa

/- Messages there and back, plainly: what was written is read. -/
namespace Go.Proofs.Ytbffnicfibfceaa
open Go.RowKit
open Pl

/-- A state in which each rest reads at its place as itself. -/
def OkS (st : St) : Prop := MInv st.1 st.2 ∧ st.1.length ≤ 4096

theorem minv_app {B : List UInt8} {ms : Marks} (h : MInv B ms) (e : List UInt8) : MInv (B ++ e) ms := fun r q hq => by
  obtain ⟨h1, d, b, h2⟩ := h r q hq
  exact ⟨by rw [List.length_append]; omega, d, b, rd_app e _ _ _ _ _ h2⟩

theorem stN_ok {st st' : St} {n : ByteArray} (hn : isName n.data.toList = true) (h : stN st n = some st') : st'.1 = outW st.1 st.2 n.data.toList ∧ st'.2 = marW st.1 st.2 n.data.toList ∧ st'.1.length = st.1.length + sizW st.2 n.data.toList ∧ st'.1.length ≤ 4096 := by
  unfold stN at h
  by_cases hf : st.1.length + sizW st.2 n.data.toList ≤ 4096
  · obtain ⟨h1, h2, h3⟩ := nam_yes (B := st.1) (ms := st.2) hn hf
    rw [h1, if_pos rfl, h2, h3] at h
    simp at h
    subst h
    refine ⟨rfl, rfl, outW_len hn, ?_⟩
    rw [outW_len hn]; exact hf
  · obtain ⟨h1, h2, h3⟩ := nam_long (B := st.1) (ms := st.2) hn hf
    rw [h1] at h
    simp at h
theorem stR_ok {st st' : St} {s : ByteArray} (h : stR st s = some st') : st'.1 = st.1 ++ s.data.toList ∧ st'.2 = st.2 ∧ st'.1.length ≤ 4096 := by
  unfold stR rawE rawB at h
  by_cases hf : st.1.length + s.size ≤ 4096
  · rw [if_pos hf, if_pos rfl, if_pos hf] at h
    simp at h
    subst h
    exact ⟨rfl, rfl, by rw [List.length_append, data_len]; exact hf⟩
  · rw [if_neg hf] at h
    simp at h

theorem outW_pre (B : List UInt8) (ms : Marks) (n : List UInt8) : ∃ x, outW B ms n = B ++ x := ⟨_, rfl⟩
/-- A name that was written is read. -/
theorem name_back {st st' : St} {n : ByteArray} (hn : isName n.data.toList = true) (ho : OkS st) (h : stN st n = some st') : OkS st' ∧ (∃ x, st'.1 = st.1 ++ x) ∧ ∀ y, nameOf (st'.1 ++ y) st.1.length = some (n.data.toList, st'.1.length) := by
  obtain ⟨h1, h2, h3, h4⟩ := stN_ok hn h
  have hB : st.1.length ≤ 16384 := by have := ho.2; omega
  refine ⟨⟨by rw [h1, h2]; exact write_inv hn ho.1 hB, h4⟩, by rw [h1]; exact outW_pre _ _ _, fun y => ?_⟩
  obtain ⟨d, hd⟩ := write_name hn ho.1 hB
  rw [h3, h1]
  exact rd_name (rd_app y _ _ _ _ _ hd) (name_some hn).1

theorem be2_list (x : Int) : (be2 x).data.toList = [oct x 256, oct x 1] := rfl
theorem be4_list (x : Int) : (be4 x).data.toList = [oct x 16777216, oct x 65536, oct x 256, oct x 1] := rfl
theorem val4_of {s : ByteArray} {k : Nat} {a b c d : UInt8} {rest : List UInt8} (h : s.data.toList.drop k = a :: b :: c :: d :: rest) : val s k 4 = four a b c d := by
  obtain ⟨_, e0⟩ := drop_get h 0 (by simp)
  obtain ⟨_, e1⟩ := drop_get h 1 (by simp)
  obtain ⟨_, e2⟩ := drop_get h 2 (by simp)
  obtain ⟨h3, e3⟩ := drop_get h 3 (by simp)
  have f0 : s[k] = a := e0
  rw [val_four s k (by omega), f0, e1, e2, e3]
  rfl
theorem in16 {x : Int} (h : inB 65535 x = true) : x % 65536 = x := by simp only [inB, decide_eq_true_eq] at h; omega
theorem in32 {x : Int} (h : inB 4294967295 x = true) : x % 4294967296 = x := by simp only [inB, decide_eq_true_eq] at h; omega

/-- A question that was written is read. -/
theorem q_back {st st' : St} {q : Qn} (hq : mayQ q = true) (ho : OkS st) (h : stQ st q = some st') : OkS st' ∧ (∃ x, st'.1 = st.1 ++ x) ∧ ∀ y, getQ ⟨(st'.1 ++ y).toArray⟩ st.1.length = some (q, st'.1.length) := by
  unfold mayQ at hq
  simp only [Bool.and_eq_true, decide_eq_true_eq] at hq
  obtain ⟨⟨hn, ht⟩, hc⟩ := hq
  unfold stQ at h
  cases h1 : stN st q.n with
  | none => rw [h1] at h; simp at h
  | some a =>
    rw [h1] at h
    simp only [Option.bind_some] at h
    obtain ⟨o1, ⟨x, p1⟩, r1⟩ := name_back hn ho h1
    obtain ⟨e1, e2, e3⟩ := stR_ok h
    refine ⟨⟨by rw [e1, e2]; exact minv_app o1.1 _, e3⟩, ⟨x ++ (qB q).data.toList, by rw [e1, p1, List.append_assoc]⟩, fun y => ?_⟩
    have hl : st'.1.length = a.1.length + 4 := by rw [e1, List.length_append]; rfl
    obtain ⟨s, hs⟩ : ∃ s : ByteArray, s = ⟨(st'.1 ++ y).toArray⟩ := ⟨_, rfl⟩
    have hsl : s.data.toList = a.1 ++ ([oct q.t 256, oct q.t 1, oct q.c 256, oct q.c 1] ++ y) := by
      rw [hs, list_arr, e1]
      unfold qB
      rw [app_list, be2_list, be2_list]
      simp
    have hsz : a.1.length + 4 ≤ s.size := by rw [← data_len, hsl]; simp
    rw [← hs]
    unfold getQ
    rw [hsl, r1]
    simp only
    have v1 : val s a.1.length 2 = q.t := by
      rw [val_of (s := s) (k := a.1.length) (a := oct q.t 256) (b := oct q.t 1) (rest := [oct q.c 256, oct q.c 1] ++ y) (by rw [hsl, List.drop_left]; rfl), two_be]; omega
    have v2 : val s (a.1.length + 2) 2 = q.c := by
      rw [val_of (s := s) (k := a.1.length + 2) (a := oct q.c 256) (b := oct q.c 1) (rest := y) (by rw [hsl, ← List.drop_drop, List.drop_left]; rfl), two_be, in16 hc]
    rw [v1, v2, if_pos ⟨hsz, by omega⟩, hl, arr_list]

/-- Data that stands as it is is read. -/
theorem data_whole {t : Int} {d : List UInt8} (h : mayD t d = true) (a y : List UInt8) : dataOf (a ++ (d ++ y)) a.length d.length t = some d := by
  by_cases h1 : t = 2 ∨ t = 5 ∨ t = 12
  · rw [may_n h1] at h
    rw [data_n h1, name_whole h, dtN, if_pos rfl]; rfl
  · by_cases h2 : t = 15
    · subst h2
      rw [may_15] at h
      simp only [Bool.and_eq_true, decide_eq_true_eq] at h
      have e1 : a ++ (d ++ y) = (a ++ d.take 2) ++ (d.drop 2 ++ y) := by
        rw [List.append_assoc, ← List.append_assoc (d.take 2), List.take_append_drop]
      have e2 : (a ++ d.take 2).length = a.length + 2 := by rw [List.length_append, List.length_take]; omega
      have hn := name_whole h.2 (a ++ d.take 2) y
      rw [e2, ← e1] at hn
      rw [data_15, if_neg (by omega), hn, dtN, if_pos (by rw [List.length_drop]; omega), List.drop_left, List.take_append_of_le_length (by omega), List.take_append_drop]
    · by_cases h3 : t = 6
      · subst h3
        rw [may_6] at h
        obtain ⟨⟨i, j⟩, hs⟩ := Option.isSome_iff_exists.1 h
        obtain ⟨c1, c2, c3⟩ := soa_some hs
        have k1 := cut_some c1
        have k2 := cut_some c2
        rw [List.length_drop] at k2
        have e1 : a ++ (d ++ y) = a ++ (d.take i ++ (d.drop i ++ y)) := by rw [← List.append_assoc (d.take i), List.take_append_drop]
        have l1 : (d.take i).length = i := by rw [List.length_take]; omega
        have hn := name_whole k1.2.2.2 a (d.drop i ++ y)
        rw [← e1, l1] at hn
        have e2 : a ++ (d ++ y) = (a ++ d.take i) ++ ((d.drop i).take j ++ ((d.drop i).drop j ++ y)) := by
          rw [← List.append_assoc ((d.drop i).take j), List.take_append_drop, List.append_assoc, ← List.append_assoc (d.take i), List.take_append_drop]
        have l2 : (a ++ d.take i).length = a.length + i := by rw [List.length_append, l1]
        have l3 : ((d.drop i).take j).length = j := by rw [List.length_take, List.length_drop]; omega
        have hn2 := name_whole k2.2.2.2 (a ++ d.take i) ((d.drop i).drop j ++ y)
        rw [← e2, l2, l3] at hn2
        rw [data_6, hn, dtS, hn2, dtS2, if_pos (by omega)]
        have e3 : (a ++ (d ++ y)).drop (a.length + i + j) = (d.drop i).drop j ++ y := by
          rw [Nat.add_assoc, ← List.drop_drop, List.drop_left, List.drop_append_of_le_length (by omega), List.drop_drop]
        have l4 : ((d.drop i).drop j).length = 20 := by rw [List.length_drop, List.length_drop]; omega
        rw [e3, List.take_append_of_le_length (by omega), List.take_of_length_le (l := (d.drop i).drop j) (by omega), List.take_append_drop, List.take_append_drop]
      · rw [data_o h1 h2 h3, List.drop_left, List.take_left, if_pos h]

/-- A record that was written is read. -/
theorem r_back {st st' : St} {r : Rc} (hr : mayR r = true) (ho : OkS st) (h : stC st r = some st') : OkS st' ∧ (∃ x, st'.1 = st.1 ++ x) ∧ ∀ y, getR ⟨(st'.1 ++ y).toArray⟩ st.1.length = some (r, st'.1.length) := by
  unfold mayR at hr
  simp only [Bool.and_eq_true] at hr
  obtain ⟨⟨⟨hn, hc⟩, hl⟩, hd⟩ := hr
  have ht := may_top hd
  rw [data_len] at ht
  unfold stC at h
  cases h1 : stN st r.n with
  | none => rw [h1] at h; simp at h
  | some a =>
    rw [h1] at h
    simp only [Option.bind_some] at h
    obtain ⟨o1, ⟨x, p1⟩, r1⟩ := name_back hn ho h1
    obtain ⟨e1, e2, e3⟩ := stR_ok h
    refine ⟨⟨by rw [e1, e2]; exact minv_app o1.1 _, e3⟩, ⟨x ++ (rB r ++ r.d).data.toList, by rw [e1, p1, List.append_assoc]⟩, fun y => ?_⟩
    have hrl : (rB r).data.toList = [oct r.t 256, oct r.t 1, oct r.c 256, oct r.c 1, oct r.l 16777216, oct r.l 65536, oct r.l 256, oct r.l 1, oct (r.d.size : Int) 256, oct (r.d.size : Int) 1] := by
      unfold rB
      rw [app_list, app_list, app_list, be2_list, be2_list, be2_list, be4_list]; rfl
    have hle : st'.1.length = a.1.length + 10 + r.d.size := by rw [e1, List.length_append, app_list, List.length_append, hrl, data_len]; simp; omega
    obtain ⟨s, hs⟩ : ∃ s : ByteArray, s = ⟨(st'.1 ++ y).toArray⟩ := ⟨_, rfl⟩
    have hsl : s.data.toList = a.1 ++ ((rB r).data.toList ++ (r.d.data.toList ++ y)) := by
      rw [hs, list_arr, e1, app_list]; simp
    have hsz : a.1.length + 10 + r.d.size ≤ s.size := by rw [← data_len s, hsl, List.length_append, List.length_append, List.length_append, hrl, data_len]; simp; omega
    rw [← hs]
    unfold getR
    have v1 : val s a.1.length 2 = r.t := by
      rw [val_of (s := s) (k := a.1.length) (by rw [hsl, List.drop_left, hrl]; rfl), two_be]; omega
    have v2 : val s (a.1.length + 2) 2 = r.c := by
      rw [val_of (s := s) (k := a.1.length + 2) (by rw [hsl, ← List.drop_drop, List.drop_left, hrl]; rfl), two_be, in16 hc]
    have v3 : val s (a.1.length + 4) 4 = r.l := by
      rw [val4_of (s := s) (k := a.1.length + 4) (by rw [hsl, ← List.drop_drop, List.drop_left, hrl]; rfl), four_be, in32 hl]
    have v4 : val s (a.1.length + 8) 2 = (r.d.size : Int) := by
      rw [val_of (s := s) (k := a.1.length + 8) (by rw [hsl, ← List.drop_drop, List.drop_left, hrl]; rfl), two_be]; omega
    have hdt : dataOf s.data.toList (a.1.length + 10) r.d.size r.t = some r.d.data.toList := by
      have := data_whole hd (a.1 ++ (rB r).data.toList) y
      rw [List.length_append, hrl, data_len, ← hrl, List.append_assoc, ← hsl] at this
      exact this
    have hnm : nameOf s.data.toList st.1.length = some (r.n.data.toList, a.1.length) := by rw [hsl]; exact r1 _
    rw [hnm]
    simp only
    rw [v1, v2, v3, v4]
    simp only [Int.toNat_natCast]
    rw [if_pos hsz, hdt]
    simp only
    rw [hle, arr_list, arr_list]

theorem getAll_cons {α : Type} {f : Nat → Option (α × Nat)} {p a : Nat} {x : α} (hf : f p = some (x, a)) : ∀ {k b : Nat} {xs : List α}, getAll f a k = some (xs, b) → getAll f p (k + 1) = some (x :: xs, b) := by
  intro k
  induction k with
  | zero => intro b xs h; simp [getAll] at h; obtain ⟨rfl, rfl⟩ := h; simp [getAll, hf]
  | succ k ih =>
    intro b xs h
    rw [getAll] at h
    cases h1 : getAll f a k with
    | none => rw [h1] at h; simp at h
    | some z =>
      obtain ⟨ys, c⟩ := z
      rw [h1] at h
      simp only at h
      cases h2 : f c with
      | none => rw [h2] at h; simp at h
      | some z =>
        obtain ⟨y, e⟩ := z
        rw [h2] at h
        simp at h
        obtain ⟨rfl, rfl⟩ := h
        exact getAll_next (ih h1) h2
theorem all_back {α : Type} {f : St → α → Option St} {get : ByteArray → Nat → Option (α × Nat)} {may : α → Bool} (H : ∀ st x st', may x = true → OkS st → f st x = some st' → OkS st' ∧ (∃ e, st'.1 = st.1 ++ e) ∧ ∀ y, get ⟨(st'.1 ++ y).toArray⟩ st.1.length = some (x, st'.1.length)) :
    ∀ (xs : List α) (st st' : St), xs.all may = true → OkS st → stAll f (some st) xs = some st' → OkS st' ∧ (∃ e, st'.1 = st.1 ++ e) ∧ ∀ y, getAll (get ⟨(st'.1 ++ y).toArray⟩) st.1.length xs.length = some (xs, st'.1.length) := by
  intro xs
  induction xs with
  | nil => intro st st' _ ho h; simp [stAll] at h; subst h; exact ⟨ho, ⟨[], by simp⟩, fun y => rfl⟩
  | cons x xs ih =>
    intro st st' hm ho h
    rw [stAll_cons, Option.bind_some] at h
    simp only [List.all_cons, Bool.and_eq_true] at hm
    cases h1 : f st x with
    | none => rw [h1, stAll_none] at h; simp at h
    | some a =>
      rw [h1] at h
      obtain ⟨o1, ⟨e1, p1⟩, r1⟩ := H st x a hm.1 ho h1
      obtain ⟨o2, ⟨e2, p2⟩, r2⟩ := ih a st' hm.2 o1 h
      refine ⟨o2, ⟨e1 ++ e2, by rw [p2, p1, List.append_assoc]⟩, fun y => ?_⟩
      refine getAll_cons (x := x) (a := a.1.length) ?_ (r2 y)
      rw [p2, List.append_assoc]
      exact r1 _

theorem few_iff {α : Type} {f : α → Bool} {xs : List α} (h : few f xs = true) : xs.length ≤ 64 ∧ xs.all f = true := by
  unfold few at h
  simpa using h
theorem hd_back {m : Ms} (hm : mayHd m.h = true) (e : ByteArray) : hdOf (headS m ++ e) = m.h := by
  unfold mayHd at hm
  rw [mayH_iff] at hm
  obtain ⟨h1, h2, h3, h4, _⟩ := hm
  have hb := head_back m.h.id m.h.qr m.h.op m.h.aa m.h.tc m.h.rd m.h.ra m.h.z m.h.rc h2 h3 h4
  have hw := word_lt (qr := m.h.qr) (aa := m.h.aa) (tc := m.h.tc) (rd := m.h.rd) (ra := m.h.ra) h2 h3 h4
  obtain ⟨p0, p1, _⟩ := put_vals m.h.id (wordH m.h.qr m.h.op m.h.aa m.h.tc m.h.rd m.h.ra m.h.z m.h.rc) (m.qs.length : Int) (m.an.length : Int) (m.ns.length : Int) (m.ar.length : Int) e
  have i1 := fit_iff.1 h1
  unfold hdOf headS
  rw [p0, p1, show m.h.id % 65536 = m.h.id from by omega, Int.emod_eq_of_lt hw.1 hw.2]
  unfold headW headV at hb
  simp only [Array.mk.injEq, List.cons.injEq, Value.int.injEq, Value.bool.injEq, true_and, and_true] at hb
  obtain ⟨a1, a2, a3, a4, a5, a6, a7, a8⟩ := hb
  rw [a1, a2, a3, a4, a5, a6, a7, a8]
theorem cnt_back (m : Ms) (h0 : m.qs.length ≤ 64) (h1 : m.an.length ≤ 64) (h2 : m.ns.length ≤ 64) (h3 : m.ar.length ≤ 64) (e : ByteArray) : cnt (headS m ++ e) 0 = m.qs.length ∧ cnt (headS m ++ e) 1 = m.an.length ∧ cnt (headS m ++ e) 2 = m.ns.length ∧ cnt (headS m ++ e) 3 = m.ar.length := by
  obtain ⟨_, _, p0, p1, p2, p3⟩ := put_vals m.h.id (wordH m.h.qr m.h.op m.h.aa m.h.tc m.h.rd m.h.ra m.h.z m.h.rc) (m.qs.length : Int) (m.an.length : Int) (m.ns.length : Int) (m.ar.length : Int) e
  unfold cnt headS
  simp only [Nat.mul_zero, Nat.add_zero, Nat.mul_one]
  rw [p0, p1, p2, p3]
  omega
theorem headS_len (m : Ms) : (headS m).data.toList.length = 12 := by unfold headS; rw [list12]; rfl

/-- A message that was written is read, and is not too long. -/
theorem there_back {m : Ms} {st : St} (hm : mayM m = true) (h : putSt m = some st) : getM ⟨st.1.toArray⟩ = some m ∧ st.1.length ≤ 4096 ∧ 12 ≤ st.1.length := by
  unfold mayM at hm
  simp only [Bool.and_eq_true] at hm
  obtain ⟨hh, ⟨⟨h0, h1⟩, h2⟩, h3⟩ := hm
  have f0 := few_iff h0
  have f1 := few_iff h1
  have f2 := few_iff h2
  have f3 := few_iff h3
  unfold putSt at h
  have ho : OkS ((headS m).data.toList, []) := ⟨fun r q hq => by simp at hq, by rw [headS_len]; decide⟩
  cases a0 : stAll stQ (some ((headS m).data.toList, [])) m.qs with
  | none => rw [a0, stAll_none, stAll_none, stAll_none] at h; simp at h
  | some s0 =>
  obtain ⟨o0, ⟨e0, p0⟩, r0⟩ := all_back (get := getQ) (fun st x st' => q_back) _ _ _ f0.2 ho a0
  rw [a0] at h
  cases a1 : stAll stC (some s0) m.an with
  | none => rw [a1, stAll_none, stAll_none] at h; simp at h
  | some s1 =>
  obtain ⟨o1, ⟨e1, p1⟩, r1⟩ := all_back (get := getR) (fun st x st' => r_back) _ _ _ f1.2 o0 a1
  rw [a1] at h
  cases a2 : stAll stC (some s1) m.ns with
  | none => rw [a2, stAll_none] at h; simp at h
  | some s2 =>
  obtain ⟨o2, ⟨e2, p2⟩, r2⟩ := all_back (get := getR) (fun st x st' => r_back) _ _ _ f2.2 o1 a2
  rw [a2] at h
  obtain ⟨o3, ⟨e3, p3⟩, r3⟩ := all_back (get := getR) (fun st x st' => r_back) _ _ _ f3.2 o2 h
  have c0 : st.1 = s0.1 ++ (e1 ++ (e2 ++ e3)) := by rw [p3, p2, p1]; simp
  have c1 : st.1 = s1.1 ++ (e2 ++ e3) := by rw [p3, p2]; simp
  have hl : 12 ≤ st.1.length := by rw [c0, p0, List.length_append, List.length_append, headS_len]; omega
  refine ⟨?_, o3.2, hl⟩
  have q0 := r0 (e1 ++ (e2 ++ e3))
  have q1 := r1 (e2 ++ e3)
  have q2 := r2 e3
  have q3 := r3 []
  rw [← c0] at q0
  rw [← c1] at q1
  rw [← p3] at q2
  rw [List.append_nil] at q3
  simp only at q0
  rw [headS_len] at q0
  obtain ⟨T, hT⟩ : ∃ T : ByteArray, T = ⟨st.1.toArray⟩ := ⟨_, rfl⟩
  rw [← hT] at q0 q1 q2 q3 ⊢
  have hTs : T = headS m ++ ⟨(e0 ++ (e1 ++ (e2 ++ e3))).toArray⟩ := by
    apply ByteArray.ext
    apply Array.toList_inj.1
    rw [app_list, list_arr, hT, list_arr, c0, p0]; simp
  have hTz : T.size = st.1.length := by rw [← data_len, hT, list_arr]
  obtain ⟨n0, n1, n2, n3⟩ := cnt_back m f0.1 f1.1 f2.1 f3.1 ⟨(e0 ++ (e1 ++ (e2 ++ e3))).toArray⟩
  rw [← hTs] at n0 n1 n2 n3
  unfold getM parts part
  rw [if_pos (by omega), n0, n1, n2, n3, if_pos f0.1, q0]
  simp only
  rw [if_pos f1.1, q1]
  simp only
  rw [if_pos f2.1, q2]
  simp only
  rw [if_pos f3.1, q3]
  simp only
  rw [if_pos hTz.symm]
  rw [hTs, hd_back hh]

end Go.Proofs.Ytbffnicfibfceaa

/- Questions and records in rows; what within, mayQuestion and mayRecord give. -/
namespace Go.Proofs.Ytbffnicfibfceaa
open Go.RowKit
open Pl

/-- Questions and records as cells. -/
def qV (q : Qn) : List Value := [.string q.n, .int .i64 q.t, .int .i64 q.c]
def rV (r : Rc) : List Value := [.string r.n, .int .i64 r.t, .int .i64 r.c, .int .i64 r.l, .string r.d]
def qC (qs : List Qn) : List Value := qs.flatMap qV
def rC (rs : List Rc) : List Value := rs.flatMap rV

theorem flat_len {α : Type} {f : α → List Value} {z : Nat} (hz : ∀ x, (f x).length = z) (xs : List α) : (xs.flatMap f).length = xs.length * z := by
  induction xs with
  | nil => simp
  | cons x xs ih => rw [List.flatMap_cons, List.length_append, hz, ih, List.length_cons, Nat.succ_mul]; omega
theorem flat_get {α : Type} {f : α → List Value} {z : Nat} (hz : ∀ x, (f x).length = z) : ∀ (xs : List α) (k : Nat) (hk : k < xs.length) (i : Nat), i < z → (xs.flatMap f)[k * z + i]? = (f xs[k])[i]? := by
  intro xs
  induction xs with
  | nil => intro k hk; simp at hk
  | cons x xs ih =>
    intro k hk i hi
    rw [List.flatMap_cons]
    cases k with
    | zero => rw [Nat.zero_mul, Nat.zero_add, List.getElem?_append_left (by rw [hz]; exact hi)]; rfl
    | succ k =>
      rw [List.getElem?_append_right (by rw [hz, Nat.succ_mul]; omega), hz, show (k + 1) * z + i - z = k * z + i from by rw [Nat.succ_mul]; omega]
      exact ih k (by simpa using hk) i hi
theorem qC_len (qs : List Qn) : (qC qs).length = qs.length * 3 := flat_len (f := qV) (z := 3) (fun _ => rfl) qs
theorem rC_len (rs : List Rc) : (rC rs).length = rs.length * 5 := flat_len (f := rV) (z := 5) (fun _ => rfl) rs
theorem qC_app (a b : List Qn) : qC (a ++ b) = qC a ++ qC b := by simp [qC]
theorem rC_app (a b : List Rc) : rC (a ++ b) = rC a ++ rC b := by simp [rC]
theorem qC_one (a : List Qn) : ∀ u ∈ qC a, u.oneCell' = true := by
  intro u hu
  simp only [qC, List.mem_flatMap] at hu
  obtain ⟨m, _, hu⟩ := hu
  simp [qV] at hu
  rcases hu with rfl | rfl | rfl <;> rfl
theorem rC_one (a : List Rc) : ∀ u ∈ rC a, u.oneCell' = true := by
  intro u hu
  simp only [rC, List.mem_flatMap] at hu
  obtain ⟨m, _, hu⟩ := hu
  simp [rV] at hu
  rcases hu with rfl | rfl | rfl | rfl | rfl <;> rfl

/-- A row that is read: so many elements, their cells. -/
def Row (w : World) (v : Value) (n : Nat) (xs : List Value) : Prop :=
  (v = .slice none 0 0 ∧ n = 0) ∨ ∃ (g o : Nat) (p : Option Nat) (cap : Nat), v = .slice (some ⟨g, o, p⟩) n cap ∧ (0 < n → p = none) ∧ ∀ j u, xs[j]? = some u → w.cell? ⟨g, o + j, none⟩ = some u
theorem Row.below {w w' : World} {v : Value} {n : Nat} {xs : List Value} (h : Row w v n xs) (hb : Below w.heap.size w w') : Row w' v n xs := by
  rcases h with h | ⟨g, o, p, cap, hv, hp, hc⟩
  · exact .inl h
  · exact .inr ⟨g, o, p, cap, hv, hp, fun j u hu => by have h1 := hc j u hu; rw [hb.cell (World.block_lt_of_cell? _ _ h1)]; exact h1⟩
theorem Row.of_own {w : World} {base e z n : Nat} {v : Value} {xs : List Value} (h : w.ownsRow base e z v n xs) : Row w v n xs := by
  rcases h.2 with ⟨h1, h2⟩ | ⟨g, cap, cur, h1, rest⟩
  · exact .inl ⟨h1, h2⟩
  · refine .inr ⟨g, 0, none, cap, h1, fun _ => rfl, fun j u hu => ?_⟩
    have hj : j < n * z := by have := (List.getElem?_eq_some_iff.1 hu).1; rw [← h.1]; exact this
    subst h1
    rw [Nat.zero_add, h.cellAt j hj, hu]
/-- A row of questions, of records: no string is too long. -/
def QRow (w : World) (v : Value) (qs : List Qn) : Prop := Row w v qs.length (qC qs) ∧ qs.length ≤ maxLen ∧ ∀ q ∈ qs, q.n.size ≤ maxLen
def RRow (w : World) (v : Value) (rs : List Rc) : Prop := Row w v rs.length (rC rs) ∧ rs.length ≤ maxLen ∧ ∀ r ∈ rs, r.n.size ≤ maxLen ∧ r.d.size ≤ maxLen
theorem QRow.below {w w' : World} {v : Value} {qs : List Qn} (h : QRow w v qs) (hb : Below w.heap.size w w') : QRow w' v qs := ⟨h.1.below hb, h.2⟩
theorem RRow.below {w w' : World} {v : Value} {rs : List Rc} (h : RRow w v rs) (hb : Below w.heap.size w w') : RRow w' v rs := ⟨h.1.below hb, h.2⟩

theorem may_at (s : ByteArray) (b : Bool) (w : World) (hs : s.size ≤ maxLen) (h : isName s.data.toList = b) :
    Calls Try.prog 64 #[.string s] w fun e w' => e = .returned (.bool b) ∧ w' = w := may_as s b w hs h
end Go.Proofs.Ytbffnicfibfceaa

/- What mayPart gives, of questions and of records. -/
namespace Go.Proofs.Ytbffnicfibfceaa
open Go.RowKit
open Pl

theorem row_none {w : World} {v : Value} {xs : List Value} (h : Row w v 0 xs) : ∃ x c, v = .slice x 0 c := by
  rcases h with ⟨h, _⟩ | ⟨g, o, p, cap, h, _⟩
  · exact ⟨_, _, h⟩
  · exact ⟨_, _, h⟩
theorem row_at {w : World} {v : Value} {n : Nat} {xs : List Value} (h : Row w v n xs) (hn : 0 < n) : ∃ g o cap, v = .slice (some ⟨g, o, none⟩) n cap ∧ ∀ j u, xs[j]? = some u → w.cell? ⟨g, o + j, none⟩ = some u := by
  rcases h with ⟨_, h⟩ | ⟨g, o, p, cap, h, hp, hc⟩
  · omega
  · rw [hp hn] at h; exact ⟨g, o, cap, h, hc⟩
theorem row_slice {w : World} {v : Value} {n : Nat} {xs : List Value} (h : Row w v n xs) : ∃ x c, v = .slice x n c := by
  rcases h with ⟨h, rfl⟩ | ⟨g, o, p, cap, h, _⟩
  · exact ⟨_, _, h⟩
  · exact ⟨_, _, h⟩
theorem qC_at {xs : List Qn} {k : Nat} (hk : k < xs.length) (i : Nat) (hi : i < 3) : (qC xs)[k * 3 + i]? = (qV xs[k])[i]? := flat_get (f := qV) (z := 3) (fun _ => rfl) xs k hk i hi
theorem rC_at {xs : List Rc} {k : Nat} (hk : k < xs.length) (i : Nat) (hi : i < 5) : (rC xs)[k * 5 + i]? = (rV xs[k])[i]? := flat_get (f := rV) (z := 5) (fun _ => rfl) xs k hk i hi
/-- The cells of one element. -/
theorem q_cells {w : World} {g o : Nat} {xs : List Qn} (hc : ∀ j u, (qC xs)[j]? = some u → w.cell? ⟨g, o + j, none⟩ = some u) {k : Nat} (hk : k < xs.length) :
    w.cell? ⟨g, o + k * 3, none⟩ = some (.string xs[k].n) ∧ w.cell? ⟨g, o + k * 3 + 1, none⟩ = some (.int .i64 xs[k].t) ∧ w.cell? ⟨g, o + k * 3 + 2, none⟩ = some (.int .i64 xs[k].c) :=
  ⟨hc _ _ (qC_at hk 0 (by decide)), hc _ _ (qC_at hk 1 (by decide)), hc _ _ (qC_at hk 2 (by decide))⟩
theorem r_cells {w : World} {g o : Nat} {xs : List Rc} (hc : ∀ j u, (rC xs)[j]? = some u → w.cell? ⟨g, o + j, none⟩ = some u) {k : Nat} (hk : k < xs.length) :
    w.cell? ⟨g, o + k * 5, none⟩ = some (.string xs[k].n) ∧ w.cell? ⟨g, o + k * 5 + 1, none⟩ = some (.int .i64 xs[k].t) ∧ w.cell? ⟨g, o + k * 5 + 2, none⟩ = some (.int .i64 xs[k].c) ∧ w.cell? ⟨g, o + k * 5 + 3, none⟩ = some (.int .i64 xs[k].l) ∧ w.cell? ⟨g, o + k * 5 + 4, none⟩ = some (.string xs[k].d) :=
  ⟨hc _ _ (rC_at hk 0 (by decide)), hc _ _ (rC_at hk 1 (by decide)), hc _ _ (rC_at hk 2 (by decide)), hc _ _ (rC_at hk 3 (by decide)), hc _ _ (rC_at hk 4 (by decide))⟩

theorem all_no {α : Type} {f : α → Bool} {xs : List α} {k : Nat} (hk : k < xs.length) (h : f xs[k] = false) : few f xs = false := by
  unfold few
  have : xs.all f = false := by
    rw [Bool.eq_false_iff]
    intro h1
    rw [List.all_eq_true] at h1
    have := h1 xs[k] (List.getElem_mem hk)
    rw [h] at this
    simp at this
  rw [this, Bool.and_false]
theorem all_take {α : Type} {f : α → Bool} {xs : List α} {k : Nat} (hk : k < xs.length) (h : (xs.take k).all f = true) (h1 : f xs[k] = true) : (xs.take (k + 1)).all f = true := by
  rw [List.take_succ_eq_append_getElem hk, List.all_append, h]
  simp [h1]

end Go.Proofs.Ytbffnicfibfceaa

/- The writer of package wire: what note, raw, name, question and record leave. -/
namespace Go.Proofs.Ytbffnicfibfceaa
open Go.RowKit
open Pl

/-- Bytes in two parts. -/
theorem stR_two (x : St) (a b : ByteArray) : stR x (a ++ b) = (stR x a).bind fun y => stR y b := by
  unfold stR rawE rawB
  rw [ByteArray.size_append]
  by_cases h1 : x.1.length + a.size ≤ 4096
  · rw [if_pos h1, if_pos h1, if_pos rfl]
    simp only [Option.bind_some]
    rw [List.length_append, data_len]
    by_cases h2 : x.1.length + (a.size + b.size) ≤ 4096
    · rw [if_pos h2, if_pos h2, if_pos (by omega), if_pos (by omega), if_pos (by omega), app_list, List.append_assoc]
    · rw [if_neg h2, if_neg (by omega)]; simp; omega
  · rw [if_neg h1, if_neg (by omega)]; simp

end Go.Proofs.Ytbffnicfibfceaa

/- What putPart and Put of package wire give. -/
namespace Go.Proofs.Ytbffnicfibfceaa
open Go.RowKit
open Pl

end Go.Proofs.Ytbffnicfibfceaa

/- What Put of package wire gives. -/
namespace Go.Proofs.Ytbffnicfibfceaa
open Go.RowKit
open Pl

/-- A message as values. -/
def msgC (h : Hd) (v0 v1 v2 v3 : Value) : Array Value := #[.int .i64 h.id, .bool h.qr, .int .i64 h.op, .bool h.aa, .bool h.tc, .bool h.rd, .bool h.ra, .int .i64 h.z, .int .i64 h.rc, v0, v1, v2, v3]
/-- A message as it lies. -/
def MRow (w : World) (H : Array Value) (m : Ms) : Prop := ∃ v0 v1 v2 v3, H = msgC m.h v0 v1 v2 v3 ∧ QRow w v0 m.qs ∧ RRow w v1 m.an ∧ RRow w v2 m.ns ∧ RRow w v3 m.ar
theorem MRow.below {w w' : World} {H : Array Value} {m : Ms} (h : MRow w H m) (hb : Below w.heap.size w w') : MRow w' H m := by
  obtain ⟨v0, v1, v2, v3, h0, h1, h2, h3, h4⟩ := h
  exact ⟨v0, v1, v2, v3, h0, h1.below hb, h2.below hb, h3.below hb, h4.below hb⟩

theorem mayH_counts {h : Hd} {a b c d : Int} (hh : mayHd h = true) (ha : 0 ≤ a ∧ a ≤ 64) (hb : 0 ≤ b ∧ b ≤ 64) (hc : 0 ≤ c ∧ c ≤ 64) (hd : 0 ≤ d ∧ d ≤ 64) : mayH h.id h.op h.z h.rc a b c d = true := by
  unfold mayHd at hh
  rw [mayH_iff] at hh ⊢
  obtain ⟨h1, h2, h3, h4, _⟩ := hh
  exact ⟨h1, h2, h3, h4, fit_iff.2 (by omega), fit_iff.2 (by omega), fit_iff.2 (by omega), fit_iff.2 (by omega)⟩
theorem mayHd_of {h : Hd} {a b c d : Int} (hh : mayH h.id h.op h.z h.rc a b c d = true) : mayHd h = true := by
  unfold mayHd
  rw [mayH_iff] at hh ⊢
  obtain ⟨h1, h2, h3, h4, _⟩ := hh
  exact ⟨h1, h2, h3, h4, by decide, by decide, by decide, by decide⟩
theorem mayM_head {m : Ms} (h : mayH m.h.id m.h.op m.h.z m.h.rc (m.qs.length : Int) (m.an.length : Int) (m.ns.length : Int) (m.ar.length : Int) = false) : mayM m = false := by
  cases hm : mayM m with
  | false => rfl
  | true =>
    unfold mayM at hm
    simp only [Bool.and_eq_true] at hm
    obtain ⟨hh, ⟨⟨h0, h1⟩, h2⟩, h3⟩ := hm
    have := few_iff h0
    have := few_iff h1
    have := few_iff h2
    have := few_iff h3
    rw [mayH_counts hh (by omega) (by omega) (by omega) (by omega)] at h
    simp at h
theorem putV_no {m : Ms} (h : mayM m = false) : putV m = .tuple #[.string ⟨#[]⟩, .int .i64 700] := by unfold putV; rw [h]; rfl
theorem putV_yes {m : Ms} (h : mayM m = true) : putV m = stV (putSt m) := by unfold putV; rw [h]; rfl
theorem stR_head (m : Ms) : (some (([], []) : St)).bind (fun x => stR x (headS m)) = some ((headS m).data.toList, []) := by
  have h := headS_len m
  rw [data_len] at h
  simp only [Option.bind_some, stR, rawE, rawB]
  rw [if_pos (by rw [h]; decide), if_pos (by rw [h]; decide)]; rfl

end Go.Proofs.Ytbffnicfibfceaa

/- The reader of package wire: what step, name, number and data leave. -/
namespace Go.Proofs.Ytbffnicfibfceaa
open Go.RowKit
open Pl

theorem Turn.alloc {S : Nat → Prop} {w a : World} (h : Turn S w a) (o : Obj) : Turn S w (a.alloc o) := h.trans (S' := fun _ => False) (Turn.of_below ((Below.refl _ _).alloc (Nat.le_refl _) o)) (fun _ => False.elim)
theorem Turn.past {S : Nat → Prop} {w a b : World} (h : Turn S w a) (hb : Below a.heap.size a b) : Turn S w b := h.trans (S' := fun _ => False) (Turn.of_below hb) (fun _ => False.elim)
theorem Turn.setNew {S : Nat → Prop} {w a : World} (h : Turn S w a) {k : Nat} (hk : w.heap.size ≤ k) (i : Nat) (v : Value) : Turn S w (a.setCell ⟨k, i, none⟩ v) :=
  h.trans (S' := fun j => j = k) (Turn.of_set (S := fun j => j = k) a (p := ⟨k, i, none⟩) rfl v) (fun _ e => .inr (by rw [e]; exact hk))
theorem Turn.same {S : Nat → Prop} {w a b : World} (h : Turn S w a) (k : Turn S a b) : Turn S w b := h.trans k (fun _ e => .inl e)

/-- At g lies a reader of s that stands at p. -/
def RD (w : World) (g : Nat) (s : ByteArray) (p : Nat) (b : Bool) : Prop := Blk w g #[.string s, .int .i64 (p : Int), .bool b] 62 ∧ p ≤ s.size
/-- The reader's block alone turns. -/
abbrev TG (g : Nat) (w w' : World) : Prop := Turn (fun k => k = g) w w'
theorem RD.below {w w' : World} {g : Nat} {s : ByteArray} {p : Nat} {b : Bool} (h : RD w g s p b) (hb : Below w.heap.size w w') : RD w' g s p b := ⟨h.1.below hb, h.2⟩
theorem RD.other {w : World} {g : Nat} {s : ByteArray} {p : Nat} {b : Bool} (h : RD w g s p b) {k : Nat} (hk : g ≠ k) (i : Nat) (v : Value) : RD (w.setCell ⟨k, i, none⟩ v) g s p b := ⟨h.1.other hk i v, h.2⟩
theorem RD.cells {w : World} {g : Nat} {s : ByteArray} {p : Nat} {b : Bool} (h : RD w g s p b) : w.cell? ⟨g, 0, none⟩ = some (.string s) ∧ w.cell? ⟨g, 1, none⟩ = some (.int .i64 (p : Int)) ∧ w.cell? ⟨g, 2, none⟩ = some (.bool b) := ⟨h.1.cell 0, h.1.cell 1, h.1.cell 2⟩
theorem RD.setBad {w : World} {g : Nat} {s : ByteArray} {p : Nat} {b : Bool} (h : RD w g s p b) : RD (w.setCell ⟨g, 2, none⟩ (.bool true)) g s p true ∧ TG g w (w.setCell ⟨g, 2, none⟩ (.bool true)) :=
  ⟨⟨h.1.set 2 _, h.2⟩, Turn.of_set (S := fun k => k = g) w (p := ⟨g, 2, none⟩) rfl _⟩
theorem RD.setAt {w : World} {g : Nat} {s : ByteArray} {p : Nat} {b : Bool} (h : RD w g s p b) {q : Nat} (hq : q ≤ s.size) : RD (w.setCell ⟨g, 1, none⟩ (.int .i64 (q : Int))) g s q b ∧ TG g w (w.setCell ⟨g, 1, none⟩ (.int .i64 (q : Int))) :=
  ⟨⟨h.1.set 1 _, hq⟩, Turn.of_set (S := fun k => k = g) w (p := ⟨g, 1, none⟩) rfl _⟩

theorem step_r {w : World} {g : Nat} {s : ByteArray} {p : Nat} {b : Bool} (h : RD w g s p b) (x E : Int) (q : Nat) (hq : E = 0 → x = (q : Int) ∧ q ≤ s.size) :
    Calls Try.prog 54 #[.pointer (some ⟨g, 0, none⟩), .int .i64 x, .int .i64 E] w fun e w' => e = .returned (.tuple #[]) ∧ RD w' g s (if E = 0 then q else p) (b || !(E == 0)) ∧ TG g w w' := by
  have f1 := h.1.frozen 1
  have f2 := h.1.frozen 2
  obtain ⟨c0, c1, c2⟩ := h.cells
  have HA : Hid (RD w g s p b) := h
  clear h
  by_cases hE : E = 0
  · subst hE
    obtain ⟨rfl, hq2⟩ := hq rfl
    have HQ2 : Hid (q ≤ s.size) := hq2
    clear hq hq2
    rw [if_pos rfl]
    go_enter Try.func54, Try.ntmps54
    go_wp2
    go_end0
    obtain ⟨b1, b2⟩ := HA.out.setAt HQ2.out
    exact ⟨rfl, by simpa using b1, b2⟩
  · have hE' : (E == 0) = false := by simpa using hE
    rw [if_neg hE]
    clear hq
    go_enter Try.func54, Try.ntmps54
    go_wp2
    (try simp only [Exit.inBlock, Exit.then]); refine bodyPost_ret (results_none rfl _ _ _) rfl ?_
    obtain ⟨b1, b2⟩ := HA.out.setBad
    exact ⟨rfl, by rw [hE', Bool.not_false, Bool.or_true]; exact b1, b2⟩

/-- What Name, U16, U32 and Data answer, as letters. -/
theorem nm_form (s : ByteArray) (p : Nat) (hs : s.size ≤ 4096) : ∃ (N : ByteArray) (x E : Int) (q : Nat), (∀ u, Calls Try.prog 53 #[.string s, .int .i64 (p : Int)] u fun e w' => e = .returned (.tuple #[.string N, .int .i64 x, .int .i64 E]) ∧ Below u.heap.size u w') ∧
    (E = 0 → x = (q : Int) ∧ q ≤ s.size) ∧ ((E = 0 ∧ nameOf s.data.toList p = some (N.data.toList, q)) ∨ (E ≠ 0 ∧ nameOf s.data.toList p = none)) := by
  cases h : nameOf s.data.toList p with
  | none => exact ⟨_, _, _, 0, fun u => cName_as s p none u (by omega) h, fun e => absurd e (by decide), .inr ⟨by decide, rfl⟩⟩
  | some z =>
    obtain ⟨n, b⟩ := z
    have hb := (nameOf_some h).2.1
    rw [data_len] at hb
    exact ⟨⟨n.toArray⟩, _, _, b, fun u => cName_as s p (some (n, b)) u (by omega) h, fun _ => ⟨rfl, hb⟩, .inl ⟨rfl, by rw [list_arr]⟩⟩
/-- A number of k bytes was read, or there was none. -/
def NumR (s : ByteArray) (p k : Nat) (x : Int) (E : Int) (q : Nat) : Prop := (E = 0 → q ≤ s.size) ∧ ((E = 0 ∧ p + k ≤ s.size ∧ x = val s p k ∧ q = p + k) ∨ (E ≠ 0 ∧ s.size < p + k ∧ x = 0))
theorem u16_form (s : ByteArray) (p : Nat) (hs : s.size ≤ 4096) : ∃ (x y E : Int) (q : Nat), (∀ u, Calls Try.prog 37 #[.string s, .int .i64 (p : Int)] u fun e w' => e = .returned (.tuple #[.int .i64 x, .int .i64 y, .int .i64 E]) ∧ Below u.heap.size u w') ∧ (E = 0 → y = (q : Int)) ∧ NumR s p 2 x E q := by
  have hm : s.size ≤ maxLen := by unfold maxLen; omega
  by_cases h : p + 2 ≤ s.size
  · exact ⟨_, _, _, p + 2, fun u => (u16_yes s p u hm h).mono fun e w' ⟨he, hd⟩ => ⟨he, below_drew hd⟩, fun _ => by omega, fun _ => h, .inl ⟨rfl, h, (val_two s p h).symm, rfl⟩⟩
  · exact ⟨_, _, _, 0, fun u => (u16_no s p u hm (.inr (by omega))).mono fun e w' ⟨he, hd⟩ => ⟨he, by rw [hd]; exact Below.refl _ _⟩, fun e => absurd e (by decide), fun e => absurd e (by decide), .inr ⟨by decide, by omega, rfl⟩⟩
theorem u32_form (s : ByteArray) (p : Nat) (hs : s.size ≤ 4096) : ∃ (x y E : Int) (q : Nat), (∀ u, Calls Try.prog 41 #[.string s, .int .i64 (p : Int)] u fun e w' => e = .returned (.tuple #[.int .i64 x, .int .i64 y, .int .i64 E]) ∧ Below u.heap.size u w') ∧ (E = 0 → y = (q : Int)) ∧ NumR s p 4 x E q := by
  have hm : s.size ≤ maxLen := by unfold maxLen; omega
  by_cases h : p + 4 ≤ s.size
  · exact ⟨_, _, _, p + 4, fun u => (u32_yes s p u hm h).mono fun e w' ⟨he, hd⟩ => ⟨he, below_drew hd⟩, fun _ => by omega, fun _ => h, .inl ⟨rfl, h, (val_four s p h).symm, rfl⟩⟩
  · exact ⟨_, _, _, 0, fun u => (u32_no s p u hm (.inr (by omega))).mono fun e w' ⟨he, hd⟩ => ⟨he, by rw [hd]; exact Below.refl _ _⟩, fun e => absurd e (by decide), fun e => absurd e (by decide), .inr ⟨by decide, by omega, rfl⟩⟩
theorem dt_form (s : ByteArray) (p n : Nat) (t : Int) (hs : s.size ≤ 4096) : ∃ (D : ByteArray) (E : Int), (∀ u, Calls Try.prog 55 #[.string s, .int .i64 (p : Int), .int .i64 (n : Int), .int .i64 t] u fun e w' => e = .returned (.tuple #[.string D, .int .i64 E]) ∧ Below u.heap.size u w') ∧
    ((E = 0 ∧ p + n ≤ s.size ∧ dataOf s.data.toList p n t = some D.data.toList) ∨ (E ≠ 0 ∧ (s.size < p + n ∨ dataOf s.data.toList p n t = none))) := by
  by_cases hp : p + n ≤ s.size
  · cases h : dataOf s.data.toList p n t with
    | none => exact ⟨_, _, fun u => cData_as s p n t none u (by omega) hp h, .inr ⟨by decide, .inr rfl⟩⟩
    | some d => exact ⟨⟨d.toArray⟩, _, fun u => cData_as s p n t (some d) u (by omega) hp h, .inl ⟨rfl, hp, by rw [list_arr]⟩⟩
  · exact ⟨_, _, fun u => cData_bad s p n t u (by omega) (.inr (.inr (by omega))), .inr ⟨by decide, .inl (by omega)⟩⟩

/-- What a reading step leaves. -/
def Stp (w w' : World) (g : Nat) (s : ByteArray) (p : Nat) (b : Bool) (E : Int) (q : Nat) : Prop := RD w' g s (if E = 0 then q else p) (b || !(E == 0)) ∧ TG g w w'

set_option maxRecDepth 20000 in
theorem rname_r {w : World} {g : Nat} {s : ByteArray} {p : Nat} {b : Bool} (hs : s.size ≤ 4096) (h : RD w g s p b) :
    ∃ (N : ByteArray) (E : Int) (q : Nat), ((E = 0 ∧ nameOf s.data.toList p = some (N.data.toList, q)) ∨ (E ≠ 0 ∧ nameOf s.data.toList p = none)) ∧
    Calls Try.prog 39 #[.pointer (some ⟨g, 0, none⟩)] w fun e w' => e = .returned (.string N) ∧ Stp w w' g s p b E q := by
  obtain ⟨N, x, E, q, hcall, hq, hn⟩ := nm_form s p hs
  refine ⟨N, E, q, hn, ?_⟩
  have HQ : Hid (E = 0 → x = (q : Int) ∧ q ≤ s.size) := hq
  have HA : Hid (RD w g s p b) := h
  have k0 : ∀ nb : Bel w, nb.to.cell? ⟨g, 0, none⟩ = some (.string s) := fun nb => (HA.out.below nb.h).cells.1
  have k1 : ∀ nb : Bel w, nb.to.cell? ⟨g, 1, none⟩ = some (.int .i64 (p : Int)) := fun nb => (HA.out.below nb.h).cells.2.1
  clear h hq hn
  go_enter Try.func39, Try.ntmps39
  go_wp2
  refine wp_region_bel (by kernel_rfl) (by kernel_rfl) (fun _ => ?_)
  repeat (go_big_quiet_step ((go_at_call 53; go_must (exact bel_lays (hcall _)))))
  refine wpQuiet_nil ?_
  intro wn hwn
  have hbn := bel_out hwn
  clear hwn k0 k1
  go_wp2_with (go_at_call 54; go_must (refine (step_r (HA.out.below hbn) x E q HQ.out).mono ?_); rintro e w2 ⟨rfl, h2, b2⟩; have H2 : Hid (Stp w w2 g s p b E q) := ⟨h2, (Turn.of_below hbn).same b2⟩; clear h2 b2)
  go_ret
  exact ⟨rfl, H2.out⟩

set_option maxRecDepth 20000 in
theorem num16_r {w : World} {g : Nat} {s : ByteArray} {p : Nat} {b : Bool} (hs : s.size ≤ 4096) (h : RD w g s p b) :
    ∃ (x E : Int) (q : Nat), NumR s p 2 x E q ∧
    Calls Try.prog 40 #[.pointer (some ⟨g, 0, none⟩), .func (.func 37) #[] #[]] w fun e w' => e = .returned (.int .i64 x) ∧ Stp w w' g s p b E q := by
  obtain ⟨x, y, E, q, hcall, hy, hn⟩ := u16_form s p hs
  refine ⟨x, E, q, hn, ?_⟩
  have HQ : Hid (E = 0 → y = (q : Int) ∧ q ≤ s.size) := fun e => ⟨hy e, hn.1 e⟩
  have HA : Hid (RD w g s p b) := h
  have k0 : ∀ nb : Bel w, nb.to.cell? ⟨g, 0, none⟩ = some (.string s) := fun nb => (HA.out.below nb.h).cells.1
  have k1 : ∀ nb : Bel w, nb.to.cell? ⟨g, 1, none⟩ = some (.int .i64 (p : Int)) := fun nb => (HA.out.below nb.h).cells.2.1
  clear h hy hn
  go_enter Try.func40, Try.ntmps40
  go_wp2
  refine wp_region_bel (by kernel_rfl) (by kernel_rfl) (fun _ => ?_)
  repeat (go_big_quiet_step ((go_at_call 37; go_must (exact bel_lays (hcall _)))))
  refine wpQuiet_nil ?_
  intro wn hwn
  have hbn := bel_out hwn
  clear hwn k0 k1
  go_wp2_with (go_at_call 54; go_must (refine (step_r (HA.out.below hbn) y E q HQ.out).mono ?_); rintro e w2 ⟨rfl, h2, b2⟩; have H2 : Hid (Stp w w2 g s p b E q) := ⟨h2, (Turn.of_below hbn).same b2⟩; clear h2 b2)
  go_ret
  exact ⟨rfl, H2.out⟩

set_option maxRecDepth 20000 in
theorem num32_r {w : World} {g : Nat} {s : ByteArray} {p : Nat} {b : Bool} (hs : s.size ≤ 4096) (h : RD w g s p b) :
    ∃ (x E : Int) (q : Nat), NumR s p 4 x E q ∧
    Calls Try.prog 40 #[.pointer (some ⟨g, 0, none⟩), .func (.func 41) #[] #[]] w fun e w' => e = .returned (.int .i64 x) ∧ Stp w w' g s p b E q := by
  obtain ⟨x, y, E, q, hcall, hy, hn⟩ := u32_form s p hs
  refine ⟨x, E, q, hn, ?_⟩
  have HQ : Hid (E = 0 → y = (q : Int) ∧ q ≤ s.size) := fun e => ⟨hy e, hn.1 e⟩
  have HA : Hid (RD w g s p b) := h
  have k0 : ∀ nb : Bel w, nb.to.cell? ⟨g, 0, none⟩ = some (.string s) := fun nb => (HA.out.below nb.h).cells.1
  have k1 : ∀ nb : Bel w, nb.to.cell? ⟨g, 1, none⟩ = some (.int .i64 (p : Int)) := fun nb => (HA.out.below nb.h).cells.2.1
  clear h hy hn
  go_enter Try.func40, Try.ntmps40
  go_wp2
  refine wp_region_bel (by kernel_rfl) (by kernel_rfl) (fun _ => ?_)
  repeat (go_big_quiet_step ((go_at_call 41; go_must (exact bel_lays (hcall _)))))
  refine wpQuiet_nil ?_
  intro wn hwn
  have hbn := bel_out hwn
  clear hwn k0 k1
  go_wp2_with (go_at_call 54; go_must (refine (step_r (HA.out.below hbn) y E q HQ.out).mono ?_); rintro e w2 ⟨rfl, h2, b2⟩; have H2 : Hid (Stp w w2 g s p b E q) := ⟨h2, (Turn.of_below hbn).same b2⟩; clear h2 b2)
  go_ret
  exact ⟨rfl, H2.out⟩

/-- The data of type t at p: its length, its bytes. -/
def DatR (s : ByteArray) (p : Nat) (t : Int) (D : ByteArray) (b b' : Bool) (p' : Nat) : Prop :=
  p' ≤ s.size ∧ ((b' = b ∧ p + 2 + (val s p 2).toNat ≤ s.size ∧ dataOf s.data.toList (p + 2) (val s p 2).toNat t = some D.data.toList ∧ p' = p + 2 + (val s p 2).toNat) ∨
  (b' = true ∧ (s.size < p + 2 + (val s p 2).toNat ∨ dataOf s.data.toList (p + 2) (val s p 2).toNat t = none)))
/-- Behind a length, with its data, or without. -/
theorem data_plain {s : ByteArray} {p q : Nat} {x E F t : Int} {D : ByteArray} {b : Bool} {p1 n : Nat} (hp : p ≤ s.size) (hn : NumR s p 2 x E q) (hp1 : p1 = if E = 0 then q else p) (hx : n = x.toNat)
    (hd : (F = 0 ∧ p1 + n ≤ s.size ∧ dataOf s.data.toList p1 n t = some D.data.toList) ∨ (F ≠ 0 ∧ (s.size < p1 + n ∨ dataOf s.data.toList p1 n t = none))) :
    DatR s p t D b ((b || !(E == 0)) || !(F == 0)) (if F = 0 then p1 + n else p1) := by
  obtain ⟨h0, h⟩ := hn
  rcases h with ⟨rfl, h1, rfl, rfl⟩ | ⟨hE, h1, rfl⟩
  · rw [if_pos rfl] at hp1
    subst hp1 hx
    rcases hd with ⟨rfl, h2, h3⟩ | ⟨hF, h2⟩
    · exact ⟨by rw [if_pos rfl]; exact h2, .inl ⟨by simp, h2, h3, by rw [if_pos rfl]⟩⟩
    · refine ⟨by rw [if_neg hF]; exact h1, .inr ⟨by simp [hF], h2⟩⟩
  · rw [if_neg hE] at hp1
    subst hp1
    refine ⟨?_, .inr ⟨by simp [hE], .inl (by omega)⟩⟩
    have h00 : (0 : Int).toNat = 0 := rfl
    split <;> omega

set_option maxRecDepth 20000 in
theorem data_r {w : World} {g : Nat} {s : ByteArray} {p : Nat} {b : Bool} (t : Int) (hs : s.size ≤ 4096) (h : RD w g s p b) :
    ∃ (D : ByteArray) (b' : Bool) (p' : Nat), DatR s p t D b b' p' ∧
    Calls Try.prog 42 #[.pointer (some ⟨g, 0, none⟩), .int .i64 t] w fun e w' => e = .returned (.string D) ∧ RD w' g s p' b' ∧ TG g w w' := by
  obtain ⟨x, E, q, hn, hnum⟩ := num16_r hs h
  obtain ⟨p1, hp1⟩ : ∃ p1, p1 = if E = 0 then q else p := ⟨_, rfl⟩
  obtain ⟨n, hx⟩ : ∃ n, n = x.toNat := ⟨_, rfl⟩
  have hxn : x = (n : Int) ∧ n < 65536 := by
    have := val_lt s p 2
    rcases hn.2 with ⟨_, _, e, _⟩ | ⟨_, _, e⟩ <;> omega
  obtain ⟨D, F, hdat, hd⟩ := dt_form s p1 n t hs
  have hpl := data_plain (b := b) h.2 hn hp1 hx hd
  obtain ⟨p', hp'⟩ : ∃ p', p' = if F = 0 then p1 + n else p1 := ⟨_, rfl⟩
  obtain ⟨b', hb'⟩ : ∃ b', b' = ((b || !(E == 0)) || !(F == 0)) := ⟨_, rfl⟩
  rw [← hp', ← hb'] at hpl
  refine ⟨D, b', p', hpl, ?_⟩
  have HPL : Hid ((if F = 0 then p1 + n else p1) ≤ s.size) := by unfold Hid; rw [← hp']; exact hpl.1
  have hp1s : p1 ≤ s.size := by
    rw [hp1]
    split
    · rename_i e; exact hn.1 e
    · exact h.2
  obtain ⟨rfl, hn6⟩ := hxn
  unfold Stp at hnum
  rw [← hp1] at hnum
  obtain ⟨b1, hb1⟩ : ∃ b1, b1 = (b || !(E == 0)) := ⟨_, rfl⟩
  rw [← hb1] at hnum hb'
  have HB' : Hid (b' = (b1 || !(F == 0))) := hb'
  have HP' : Hid (p' = if F = 0 then p1 + n else p1) := hp'
  clear hn hp1 hx hd hpl h hb1 hb' hp'
  go_enter Try.func42, Try.ntmps42
  go_wp2_with (go_at_call 40; go_must (refine hnum.mono ?_); rintro e w1 ⟨rfl, h1, u1⟩; have H1 : Hid (RD w1 g s p1 b1 ∧ TG g w w1) := ⟨h1, u1⟩; have k0 : ∀ nb : Bel w1, nb.to.cell? ⟨g, 0, none⟩ = some (.string s) := (fun nb => (H1.out.1.below nb.h).cells.1); have k1 : ∀ nb : Bel w1, nb.to.cell? ⟨g, 1, none⟩ = some (.int .i64 (p1 : Int)) := (fun nb => (H1.out.1.below nb.h).cells.2.1); clear h1 u1)
  refine wp_region_bel (by kernel_rfl) (by kernel_rfl) (fun _ => ?_)
  repeat (go_big_quiet_step ((go_at_call 55; go_must (exact bel_lays (hdat _)))))
  refine wpQuiet_nil ?_
  intro wn hwn
  have hbn := bel_out hwn
  clear hwn k0 k1
  obtain ⟨c0, c1, c2⟩ := (H1.out.1.below hbn).cells
  go_wp2_with (go_at_call 54; go_must (refine (step_r (H1.out.1.below hbn) _ F (p1 + n) (fun e => ⟨(by omega), (by have := HPL.out; rwa [if_pos e] at this)⟩)).mono ?_); rintro e w2 ⟨rfl, h2, b2⟩; have H2 : Hid (RD w2 g s p' b' ∧ TG g w w2) := ⟨(by rw [HP'.out, HB'.out]; exact h2), (H1.out.2.past hbn).same b2⟩; clear h2 b2)
  go_ret
  exact ⟨rfl, H2.out⟩

end Go.Proofs.Ytbffnicfibfceaa

/- The reader of package wire: what question and record give. -/
namespace Go.Proofs.Ytbffnicfibfceaa
open Go.RowKit
open Pl

/-- What question and record hold: the reader, the result, the part that is read. -/
structure Loc (w w' : World) (g : Nat) (s : ByteArray) (p : Nat) (b : Bool) (T : TypeId) (Z C : Array Value) : Prop where
  rd : RD w' g s p b
  tg : TG g w w'
  res : Blk w' w.heap.size Z T
  loc : Blk w' (w.heap.size + 1) C T
  lt : g < w.heap.size
section
variable {w w' w'' : World} {g : Nat} {s : ByteArray} {p p' : Nat} {b b' : Bool} {T : TypeId} {Z C : Array Value}
theorem Loc.step (j : Loc w w' g s p b T Z C) (hr : RD w'' g s p' b') (ht : TG g w' w'') : Loc w w'' g s p' b' T Z C :=
  ⟨hr, j.tg.same ht, ht.blk j.res (by have := j.lt; omega), ht.blk j.loc (by have := j.lt; omega), j.lt⟩
theorem Loc.put (j : Loc w w' g s p b T Z C) (i : Nat) (v : Value) (C' : Array Value) (hC : C.setIfInBounds i v = C') : Loc w (w'.setCell ⟨w.heap.size + 1, i, none⟩ v) g s p b T Z C' :=
  ⟨j.rd.other (by have := j.lt; omega) i v, j.tg.setNew (by omega) i v, j.res.other (by omega) i v, by rw [← hC]; exact j.loc.set i v, j.lt⟩
theorem Loc.give (j : Loc w w' g s p b T Z C) (i : Nat) (v : Value) (Z' : Array Value) (hC : Z.setIfInBounds i v = Z') : Loc w (w'.setCell ⟨w.heap.size, i, none⟩ v) g s p b T Z' C :=
  ⟨j.rd.other (by have := j.lt; omega) i v, j.tg.setNew (by omega) i v, by rw [← hC]; exact j.res.set i v, j.loc.other (by omega) i v, j.lt⟩
theorem Loc.bad (j : Loc w w' g s p b T Z C) : Loc w (w'.setCell ⟨g, 2, none⟩ (.bool true)) g s p true T Z C := j.step j.rd.setBad.1 j.rd.setBad.2
theorem Loc.start (h : RD w g s p b) (T : TypeId) (Z : Array Value) : Loc w ((w.alloc (.cells Z T)).alloc (.cells Z T)) g s p b T Z Z := by
  have e1 : (w.alloc (.cells Z T)).heap.size = w.heap.size + 1 := by simp
  refine ⟨h.below (lay (lay (Below.refl _ _) _) _), Turn.of_below (lay (lay (Below.refl _ _) _) _), (Blk.new w _ _).alloc _, ?_, h.1.lt⟩
  have := Blk.new (w.alloc (.cells Z T)) Z T
  rw [e1] at this; exact this
end

/-- A question, with the three steps of its reading. -/
theorem q_fin {s : ByteArray} {p p1 p2 p3 q1 q2 q3 : Nat} {N : ByteArray} {E1 E2 E3 x y : Int} (_hp : p ≤ s.size)
    (h1 : (E1 = 0 ∧ nameOf s.data.toList p = some (N.data.toList, q1)) ∨ (E1 ≠ 0 ∧ nameOf s.data.toList p = none)) (e1 : p1 = if E1 = 0 then q1 else p)
    (h2 : NumR s p1 2 x E2 q2) (e2 : p2 = if E2 = 0 then q2 else p1) (h3 : NumR s p2 2 y E3 q3) (e3 : p3 = if E3 = 0 then q3 else p2) :
    (x ≠ 0 → ((((false || !(E1 == 0)) || !(E2 == 0)) || !(E3 == 0)) = false ∧ getQ s p = some (⟨N, x, y⟩, p3)) ∨ ((((false || !(E1 == 0)) || !(E2 == 0)) || !(E3 == 0)) = true ∧ getQ s p = none)) ∧ (x = 0 → getQ s p = none) := by
  unfold getQ
  rcases h1 with ⟨rfl, h1⟩ | ⟨n1, h1⟩
  · rw [if_pos rfl] at e1
    subst e1
    rw [h1]
    simp only
    rcases h2.2 with ⟨rfl, a2, rfl, rfl⟩ | ⟨n2, a2, rfl⟩
    · rw [if_pos rfl] at e2
      subst e2
      rcases h3.2 with ⟨rfl, a3, rfl, rfl⟩ | ⟨n3, a3, rfl⟩
      · rw [if_pos rfl] at e3
        subst e3
        refine ⟨fun hx => .inl ⟨rfl, ?_⟩, fun hx => ?_⟩
        · rw [if_pos ⟨by omega, hx⟩, arr_list]
        · rw [if_neg (fun h => h.2 hx)]
      · exact ⟨fun hx => .inr ⟨by simp [n3], by rw [if_neg (by omega)]⟩, fun hx => by rw [if_neg (by omega)]⟩
    · exact ⟨fun hx => absurd rfl hx, fun _ => by rw [if_neg (by omega)]⟩
  · rw [h1]
    exact ⟨fun _ => .inr ⟨by simp [n1], rfl⟩, fun _ => rfl⟩

set_option maxRecDepth 20000 in
set_option maxHeartbeats 1000000 in
theorem question_r {w : World} {g : Nat} {s : ByteArray} {p : Nat} (hs : s.size ≤ 4096) (h : RD w g s p false) :
    Calls Try.prog 25 #[.pointer (some ⟨g, 0, none⟩)] w fun e w' => ∃ (q : Qn) (p' : Nat) (b' : Bool), e = .returned (.agg #[.string q.n, .int .i64 q.t, .int .i64 q.c]) ∧ RD w' g s p' b' ∧ TG g w w' ∧ ((b' = false ∧ getQ s p = some (q, p')) ∨ (b' = true ∧ getQ s p = none)) := by
  have j := Loc.start h 40 #[.string ⟨#[]⟩, .int .i64 0, .int .i64 0]
  have HP : Hid (p ≤ s.size) := h.2
  have hlt := h.1.lt
  have t1 : True := trivial
  clear h
  go_enter Try.func25, Try.ntmps25
  go_wp2_with (first
    | (go_at_call 39; obtain ⟨N, E1, q1, hN, cN⟩ := rname_r hs j.rd; have HN : Hid _ := hN; go_must (refine cN.mono ?_); rintro e w1 ⟨rfl, h1, u1⟩; obtain ⟨p1, e1⟩ : ∃ p1, p1 = if E1 = 0 then q1 else p := ⟨_, rfl⟩; rw [← e1] at h1; have HE1 : Hid (p1 = if E1 = 0 then q1 else p) := e1; replace j := j.step h1 u1; clear h1 u1 e1 cN hN; have fz := j.loc.frozen 0; have cl : w1.cell? ⟨w.heap.size + 1, 0, none⟩ = some (.string ⟨#[]⟩) := j.loc.cell 0)
    | (go_at_call 40; have _t := t1; replace j := j.put 0 (.string N) _ rfl; obtain ⟨x, E2, q2, hN2, cN⟩ := num16_r hs j.rd; have HN2 : Hid _ := hN2; go_must (refine cN.mono ?_); rintro e w2 ⟨rfl, h1, u1⟩; obtain ⟨p2, e2⟩ : ∃ p2, p2 = if E2 = 0 then q2 else p1 := ⟨_, rfl⟩; rw [← e2] at h1; have HE2 : Hid (p2 = if E2 = 0 then q2 else p1) := e2; replace j := j.step h1 u1; clear h1 u1 e2 cN hN2 fz cl t1 _t; have fz := j.loc.frozen 1; have cl : w2.cell? ⟨w.heap.size + 1, 1, none⟩ = some (.int .i64 0) := j.loc.cell 1)
    | (go_at_call 40; replace j := j.put 1 (.int .i64 x) _ rfl; obtain ⟨y, E3, q3, hN3, cN⟩ := num16_r hs j.rd; have HN3 : Hid _ := hN3; go_must (refine cN.mono ?_); rintro e w3 ⟨rfl, h1, u1⟩; obtain ⟨p3, e3⟩ : ∃ p3, p3 = if E3 = 0 then q3 else p2 := ⟨_, rfl⟩; rw [← e3] at h1; have HE3 : Hid (p3 = if E3 = 0 then q3 else p2) := e3; replace j := j.step h1 u1; clear h1 u1 e3 cN hN3 fz cl; have fz := j.loc.frozen 2; have cl : w3.cell? ⟨w.heap.size + 1, 2, none⟩ = some (.int .i64 0) := j.loc.cell 2; have cl1 : w3.cell? ⟨w.heap.size + 1, 1, none⟩ = some (.int .i64 x) := j.loc.cell 1; have HF : Hid _ := q_fin HP.out HN.out HE1.out HN2.out HE2.out HN3.out HE3.out; have cl0 : w3.cell? ⟨w.heap.size + 1, 0, none⟩ = some (.string N) := j.loc.cell 0; have r0 : w3.cell? ⟨w.heap.size, 0, none⟩ = some (.string ⟨#[]⟩) := j.res.cell 0; have r1 : w3.cell? ⟨w.heap.size, 1, none⟩ = some (.int .i64 0) := j.res.cell 1; have r2 : w3.cell? ⟨w.heap.size, 2, none⟩ = some (.int .i64 0) := j.res.cell 2; have y0 := j.res.frozen 0; have y1 := j.res.frozen 1; have y2 := j.res.frozen 2; have gb := j.rd.cells.2.2; have gf := j.rd.1.frozen 2; clear HP HN HE1 HN2 HE2 HN3 HE3))
  · rename_i hx0
    have hx : x = 0 := by simpa using hx0
    have j1 := (((((j.put 2 (.int .i64 y) _ rfl).bad).give 0 (.string N) _ rfl).give 1 (.int .i64 x) _ rfl).give 2 (.int .i64 y) _ rfl)
    have m0 := j1.res.cell 0
    have m1 := j1.res.cell 1
    have m2 := j1.res.cell 2
    refine bodyPost_ret (v := .agg #[.string N, .int .i64 x, .int .i64 y]) (by simp [results, Try.results25, go_sem, m0, m1, m2]) rfl ⟨⟨N, x, y⟩, _, _, rfl, j1.rd, j1.tg, .inr ⟨rfl, HF.out.2 hx⟩⟩
  · rename_i hx0
    have hx : x ≠ 0 := by simpa using hx0
    have j1 := ((((j.put 2 (.int .i64 y) _ rfl).give 0 (.string N) _ rfl).give 1 (.int .i64 x) _ rfl).give 2 (.int .i64 y) _ rfl)
    have m0 := j1.res.cell 0
    have m1 := j1.res.cell 1
    have m2 := j1.res.cell 2
    refine bodyPost_ret (v := .agg #[.string N, .int .i64 x, .int .i64 y]) (by simp [results, Try.results25, go_sem, m0, m1, m2]) rfl ⟨⟨N, x, y⟩, _, _, rfl, j1.rd, j1.tg, HF.out.1 hx⟩

/-- A record, with the five steps of its reading. -/
theorem r_fin {s : ByteArray} {p p1 p2 p3 p4 p5 q1 q2 q3 q4 : Nat} {N D : ByteArray} {E1 E2 E3 E4 x y l : Int} {b' : Bool}
    (h1 : (E1 = 0 ∧ nameOf s.data.toList p = some (N.data.toList, q1)) ∨ (E1 ≠ 0 ∧ nameOf s.data.toList p = none)) (e1 : p1 = if E1 = 0 then q1 else p)
    (h2 : NumR s p1 2 x E2 q2) (e2 : p2 = if E2 = 0 then q2 else p1) (h3 : NumR s p2 2 y E3 q3) (e3 : p3 = if E3 = 0 then q3 else p2) (h4 : NumR s p3 4 l E4 q4) (e4 : p4 = if E4 = 0 then q4 else p3)
    (h5 : DatR s p4 x D (((((false || !(E1 == 0)) || !(E2 == 0)) || !(E3 == 0))) || !(E4 == 0)) b' p5) :
    (b' = false ∧ getR s p = some (⟨N, x, y, l, D⟩, p5)) ∨ (b' = true ∧ getR s p = none) := by
  have hbad : (((((false || !(E1 == 0)) || !(E2 == 0)) || !(E3 == 0))) || !(E4 == 0)) = true → b' = true := fun h => by
    rcases h5.2 with ⟨a, _⟩ | ⟨a, _⟩
    · rw [a, h]
    · exact a
  unfold getR
  rcases h1 with ⟨rfl, h1⟩ | ⟨n1, h1⟩
  · rw [if_pos rfl] at e1
    subst e1
    rw [h1]
    simp only
    rcases h2.2 with ⟨rfl, a2, rfl, rfl⟩ | ⟨n2, a2, rfl⟩
    · rw [if_pos rfl] at e2
      subst e2
      rcases h3.2 with ⟨rfl, a3, rfl, rfl⟩ | ⟨n3, a3, rfl⟩
      · rw [if_pos rfl] at e3
        subst e3
        rcases h4.2 with ⟨rfl, a4, rfl, rfl⟩ | ⟨n4, a4, rfl⟩
        · rw [if_pos rfl] at e4
          subst e4
          have f1 : p1 + 2 + 2 + 4 = p1 + 8 := by omega
          have f2 : p1 + 2 + 2 = p1 + 4 := by omega
          have f3 : p1 + 8 + 2 = p1 + 10 := by omega
          rw [f1] at h5
          rw [f2]
          unfold DatR at h5
          rw [f3] at h5
          rcases h5.2 with ⟨hb, a5, a6, rfl⟩ | ⟨hb, a5⟩
          · left
            refine ⟨hb, ?_⟩
            rw [if_pos a5, a6, arr_list]
          · right
            refine ⟨hb, ?_⟩
            rcases a5 with a5 | a5
            · rw [if_neg (by omega)]
            · split
              · rw [a5]
              · rfl
        · exact .inr ⟨hbad (by simp [n4]), by rw [if_neg (by omega)]⟩
      · exact .inr ⟨hbad (by simp [n3]), by rw [if_neg (by omega)]⟩
    · exact .inr ⟨hbad (by simp [n2]), by rw [if_neg (by omega)]⟩
  · rw [h1]
    exact .inr ⟨hbad (by simp [n1]), rfl⟩

set_option maxRecDepth 20000 in
set_option maxHeartbeats 2000000 in
theorem record_r {w : World} {g : Nat} {s : ByteArray} {p : Nat} (hs : s.size ≤ 4096) (h : RD w g s p false) :
    Calls Try.prog 27 #[.pointer (some ⟨g, 0, none⟩)] w fun e w' => ∃ (r : Rc) (p' : Nat) (b' : Bool), e = .returned (.agg #[.string r.n, .int .i64 r.t, .int .i64 r.c, .int .i64 r.l, .string r.d]) ∧ RD w' g s p' b' ∧ TG g w w' ∧ ((b' = false ∧ getR s p = some (r, p')) ∨ (b' = true ∧ getR s p = none)) := by
  have j := Loc.start h 54 #[.string ⟨#[]⟩, .int .i64 0, .int .i64 0, .int .i64 0, .string ⟨#[]⟩]
  have hlt := h.1.lt
  have t1 : True := trivial
  have t2 : True := trivial
  clear h
  go_enter Try.func27, Try.ntmps27
  go_wp2_with (first
    | (go_at_call 39; obtain ⟨N, E1, q1, hN, cN⟩ := rname_r hs j.rd; have HN : Hid _ := hN; go_must (refine cN.mono ?_); rintro e w1 ⟨rfl, h1, u1⟩; obtain ⟨p1, e1⟩ : ∃ p1, p1 = if E1 = 0 then q1 else p := ⟨_, rfl⟩; rw [← e1] at h1; have HE1 : Hid (p1 = if E1 = 0 then q1 else p) := e1; replace j := j.step h1 u1; clear h1 u1 e1 cN hN; have fz := j.loc.frozen 0; have cl : w1.cell? ⟨w.heap.size + 1, 0, none⟩ = some (.string ⟨#[]⟩) := j.loc.cell 0)
    | (go_at_call 40; have _t := t1; replace j := j.put 0 (.string N) _ rfl; obtain ⟨x, E2, q2, hN2, cN⟩ := num16_r hs j.rd; have HN2 : Hid _ := hN2; go_must (refine cN.mono ?_); rintro e w2 ⟨rfl, h1, u1⟩; obtain ⟨p2, e2⟩ : ∃ p2, p2 = if E2 = 0 then q2 else p1 := ⟨_, rfl⟩; rw [← e2] at h1; have HE2 : Hid (p2 = if E2 = 0 then q2 else p1) := e2; replace j := j.step h1 u1; clear h1 u1 e2 cN hN2 fz cl t1 _t; have fz := j.loc.frozen 1; have cl : w2.cell? ⟨w.heap.size + 1, 1, none⟩ = some (.int .i64 0) := j.loc.cell 1)
    | (go_at_call 40; have _t := t2; replace j := j.put 1 (.int .i64 x) _ rfl; obtain ⟨y, E3, q3, hN3, cN⟩ := num16_r hs j.rd; have HN3 : Hid _ := hN3; go_must (refine cN.mono ?_); rintro e w3 ⟨rfl, h1, u1⟩; obtain ⟨p3, e3⟩ : ∃ p3, p3 = if E3 = 0 then q3 else p2 := ⟨_, rfl⟩; rw [← e3] at h1; have HE3 : Hid (p3 = if E3 = 0 then q3 else p2) := e3; replace j := j.step h1 u1; clear h1 u1 e3 cN hN3 fz cl t2 _t; have fz := j.loc.frozen 2; have cl : w3.cell? ⟨w.heap.size + 1, 2, none⟩ = some (.int .i64 0) := j.loc.cell 2)
    | (go_at_call 40; replace j := j.put 2 (.int .i64 y) _ rfl; obtain ⟨l, E4, q4, hN4, cN⟩ := num32_r hs j.rd; have HN4 : Hid _ := hN4; go_must (refine cN.mono ?_); rintro e w4 ⟨rfl, h1, u1⟩; obtain ⟨p4, e4⟩ : ∃ p4, p4 = if E4 = 0 then q4 else p3 := ⟨_, rfl⟩; rw [← e4] at h1; have HE4 : Hid (p4 = if E4 = 0 then q4 else p3) := e4; replace j := j.step h1 u1; clear h1 u1 e4 cN hN4 fz cl; have fz := j.loc.frozen 3; have cl : w4.cell? ⟨w.heap.size + 1, 3, none⟩ = some (.int .i64 0) := j.loc.cell 3; have cl1 : w4.cell? ⟨w.heap.size + 1, 1, none⟩ = some (.int .i64 x) := j.loc.cell 1)
    | (go_at_call 42; replace j := j.put 3 (.int .i64 l) _ rfl; obtain ⟨D, b', p', hD, cN⟩ := data_r x hs j.rd; have HF : Hid _ := r_fin HN.out HE1.out HN2.out HE2.out HN3.out HE3.out HN4.out HE4.out hD; go_must (refine cN.mono ?_); rintro e w5 ⟨rfl, h1, u1⟩; replace j := j.step h1 u1; clear h1 u1 cN hD fz cl cl1 HN HE1 HN2 HE2 HN3 HE3 HN4 HE4; have fz := j.loc.frozen 4; have cl : w5.cell? ⟨w.heap.size + 1, 4, none⟩ = some (.string ⟨#[]⟩) := j.loc.cell 4; have cl0 : w5.cell? ⟨w.heap.size + 1, 0, none⟩ = some (.string N) := j.loc.cell 0; have cl1 : w5.cell? ⟨w.heap.size + 1, 1, none⟩ = some (.int .i64 x) := j.loc.cell 1; have cl2 : w5.cell? ⟨w.heap.size + 1, 2, none⟩ = some (.int .i64 y) := j.loc.cell 2; have cl3 : w5.cell? ⟨w.heap.size + 1, 3, none⟩ = some (.int .i64 l) := j.loc.cell 3; have r0 : w5.cell? ⟨w.heap.size, 0, none⟩ = some (.string ⟨#[]⟩) := j.res.cell 0; have r1 : w5.cell? ⟨w.heap.size, 1, none⟩ = some (.int .i64 0) := j.res.cell 1; have r2 : w5.cell? ⟨w.heap.size, 2, none⟩ = some (.int .i64 0) := j.res.cell 2; have r3 : w5.cell? ⟨w.heap.size, 3, none⟩ = some (.int .i64 0) := j.res.cell 3; have r4 : w5.cell? ⟨w.heap.size, 4, none⟩ = some (.string ⟨#[]⟩) := j.res.cell 4; have y0 := j.res.frozen 0; have y1 := j.res.frozen 1; have y2 := j.res.frozen 2; have y3 := j.res.frozen 3; have y4 := j.res.frozen 4))
  have j1 := ((((((j.put 4 (.string D) _ rfl).give 0 (.string N) _ rfl).give 1 (.int .i64 x) _ rfl).give 2 (.int .i64 y) _ rfl).give 3 (.int .i64 l) _ rfl).give 4 (.string D) _ rfl)
  have m0 := j1.res.cell 0
  have m1 := j1.res.cell 1
  have m2 := j1.res.cell 2
  have m3 := j1.res.cell 3
  have m4 := j1.res.cell 4
  refine bodyPost_ret (v := .agg #[.string N, .int .i64 x, .int .i64 y, .int .i64 l, .string D]) (by simp [results, Try.results27, go_sem, m0, m1, m2, m3, m4]) rfl ⟨⟨N, x, y, l, D⟩, _, _, rfl, j1.rd, j1.tg, HF.out⟩

end Go.Proofs.Ytbffnicfibfceaa
