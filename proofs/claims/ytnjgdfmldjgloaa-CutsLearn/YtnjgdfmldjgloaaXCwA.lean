/- CutsDeep, plainly: names of labels of one letter, one beneath the other. -/
import Derived.Test.YtnjgdfmldjgloaaXP16
namespace Go.Proofs.Ytnjgdfmldjgloaa
open Go.RowKit
open Pl
namespace Cu

def Low (b : UInt8) : Prop := 97 ≤ b.toNat ∧ b.toNat ≤ 122
def nmR (R : List UInt8) : List UInt8 := enc (R.map fun b => [b])
def nmB (R : List UInt8) : ByteArray := ⟨(nmR R).toArray⟩
theorem nmB_list (R : List UInt8) : (nmB R).data.toList = nmR R := by simp [nmB]
theorem nmR_len (R : List UInt8) : (nmR R).length = 2 * R.length + 1 := by
  unfold nmR enc
  induction R with
  | nil => rfl
  | cons b R ih =>
    rw [List.map_cons, pre_cons]
    simp only [List.length_append, List.length_cons, List.length_nil] at ih ⊢
    omega
theorem nmB_size (R : List UInt8) : (nmB R).size = 2 * R.length + 1 := by
  have := data_len (nmB R)
  rw [nmB_list, nmR_len] at this
  omega
theorem good_ones (R : List UInt8) : GoodL (R.map fun b => [b]) := by
  intro x hx
  obtain ⟨b, _, rfl⟩ := List.mem_map.1 hx
  simp
theorem nm_name {R : List UInt8} (h : R.length ≤ 100) : isName (nmR R) = true ∧ labs (nmR R) = R.map fun b => [b] := by
  have := name_enc (good_ones R) (by have := nmR_len R; unfold nmR at this; omega)
  exact ⟨this.1, this.2.2⟩
theorem fb_low {b : UInt8} (h : Low b) : fb b = b := by unfold Low at h; unfold fb; rw [if_neg (by omega)]
theorem nm_fold {R : List UInt8} (h : ∀ b ∈ R, Low b) : foldL (nmR R) = nmR R := by
  unfold nmR
  rw [fold_enc (good_ones R), List.map_map]
  refine congrArg _ (List.map_congr_left (fun b hb => ?_))
  show foldL [b] = [b]
  unfold foldL
  rw [List.map_cons, List.map_nil, fb_low (h b hb)]
theorem nm_fd {R : List UInt8} (hl : R.length ≤ 100) (h : ∀ b ∈ R, Low b) : fdB (nmB R) = nmB R := by
  refine bytes_ext ?_
  rw [fdB_list, nmB_list]
  unfold foldR
  rw [if_pos (nm_name hl).1, nm_fold h]
theorem nm_last {R : List UInt8} (hl : R.length ≤ 100) (k : Nat) : lastB (nmB R) k = nmB (R.drop (R.length - k)) := by
  refine bytes_ext ?_
  rw [lastB_list, nmB_list, nmB_list]
  unfold lastN
  rw [(nm_name hl).2, List.length_map, ← List.map_drop]
  rfl
theorem nm_tell {R : List UInt8} {b : UInt8} (hl : R.length ≤ 99) : tellOk (nmB R) (nmB (b :: R)) = true := by
  have hb := nm_name (R := b :: R) (by simp; omega)
  have hr := nm_name (R := R) (by omega)
  have hlast : lastN (nmR (b :: R)) R.length = nmR R := by
    have := congrArg (fun x : ByteArray => x.data.toList) (nm_last (R := b :: R) (by simp; omega) R.length)
    simp only [lastB_list, nmB_list] at this
    rw [this]
    simp
  unfold tellOk
  rw [nmB_list, nmB_list]
  have h1 : aboveB (nmR R) (nmR (b :: R)) = true := above_iff.2 ⟨hr.1, hb.1, by
    rw [← hlast, fl_last hb.1 _ (by rw [hb.2]; simp)]
    exact List.take_prefix _ _⟩
  have h2 : sameB (nmR R) (nmR (b :: R)) = false := by
    cases h : sameB (nmR R) (nmR (b :: R)) with
    | false => rfl
    | true =>
      have := congrArg List.length (same_iff.1 h).2.2
      rw [fl_len, fl_len, hr.2, hb.2] at this
      simp at this
  rw [h1, h2]; rfl

/-- The name of the first so many labels. -/
def nK (Ls : List UInt8) (k : Nat) : ByteArray := nmB (Ls.take k).reverse
theorem nK_size {Ls : List UInt8} {k : Nat} (h : k ≤ Ls.length) : (nK Ls k).size = 2 * k + 1 := by
  unfold nK
  rw [nmB_size, List.length_reverse, List.length_take]
  omega
theorem nK_snoc {Ls : List UInt8} {b : UInt8} {k : Nat} (h : k ≤ Ls.length) : nK (Ls ++ [b]) k = nK Ls k := by
  unfold nK
  rw [List.take_append_of_le_length h]
theorem nK_all (Ls : List UInt8) (b : UInt8) : nK (Ls ++ [b]) (Ls.length + 1) = nmB (b :: Ls.reverse) := by
  unfold nK
  rw [List.take_of_length_le (by simp)]
  simp
theorem nK_full (Ls : List UInt8) : nK Ls Ls.length = nmB Ls.reverse := by unfold nK; rw [List.take_length]
theorem nK_zero (Ls : List UInt8) : nK Ls 0 = rootB := by unfold nK; rfl
/-- Cuts one beneath the other. -/
structure FDeep (Ls : List UInt8) (Us : List Int) (F : List Ct) : Prop where
  len : F.length = Ls.length
  ulen : Us.length = Ls.length
  nine : Ls.length ≤ 9
  low : ∀ b ∈ Ls, Low b
  q : ∀ b ∈ Ls, b ≠ 113
  late : ∀ u ∈ Us, 10 < u
  at' : ∀ i (h : i < F.length) (h2 : i < Us.length), F[i].n = nK Ls (i + 1) ∧ F[i].u = Us[i]
theorem FDeep.start : FDeep [] [] [] := ⟨rfl, rfl, by decide, fun b h => by simp at h, fun b h => by simp at h, fun u h => by simp at h, fun i h => by simp at h⟩
theorem last_id {t : Int} (h1 : 1 ≤ t) (h2 : t ≤ 86400) : lastI t = t := by unfold lastI; omega
theorem del_may {R : List UInt8} {b : UInt8} {a t : Int} (hl : R.length ≤ 99) (ha : wideB a = true) : mayD (delD (nmB (b :: R)) a t) (nmB R) 10 = true := by
  unfold mayD delD
  simp only
  rw [nm_tell hl, show hostsOk [⟨#[1, 104, 0]⟩] = true by decide, show glueOk [delG a t] [⟨#[1, 104, 0]⟩] = true from ?_]
  · decide
  · unfold glueOk gOk delG
    simp only [List.length_cons, List.length_nil, List.all_cons, List.all_nil, ha]
    rw [show hasB [⟨#[1, 104, 0]⟩] ⟨#[1, 72, 0]⟩ = true by decide]
    rfl
theorem FDeep.put {Ls : List UInt8} {Us : List Int} {F : List Ct} (h : FDeep Ls Us F) (h8 : Ls.length < 9) {b : UInt8} (hb : Low b) (hq : b ≠ 113) {a t : Int} (ha : wideB a = true) (h1 : 1 ≤ t) (h2 : t ≤ 86400) :
    errC (delD (nK (Ls ++ [b]) (Ls.length + 1)) a t) (nK Ls Ls.length) 10 = 0 ∧ FDeep (Ls ++ [b]) (Us ++ [10 + t]) (putC F (delD (nK (Ls ++ [b]) (Ls.length + 1)) a t) (nK Ls Ls.length) 10) := by
  have hm : mayD (delD (nK (Ls ++ [b]) (Ls.length + 1)) a t) (nK Ls Ls.length) 10 = true := by
    rw [nK_all, nK_full]
    exact del_may (by simp; omega) ha
  have hfd : fdB (nK (Ls ++ [b]) (Ls.length + 1)) = nK (Ls ++ [b]) (Ls.length + 1) := by
    rw [nK_all]
    refine nm_fd (by simp; omega) (fun x hx => ?_)
    rcases List.mem_cons.1 hx with rfl | hx
    · exact hb
    · exact h.low x (List.mem_reverse.1 hx)
  have hkeep : F.filter (keepC (nK (Ls ++ [b]) (Ls.length + 1)) 10) = F := by
    refine List.filter_eq_self.2 (fun c hc => ?_)
    obtain ⟨i, hi, rfl⟩ := List.getElem_of_mem hc
    have hi2 : i < Us.length := by rw [h.ulen, ← h.len]; exact hi
    obtain ⟨e1, e2⟩ := h.at' i hi hi2
    have hlen := h.len
    unfold keepC
    rw [decide_eq_false (fun e => by
      have h1 := congrArg ByteArray.size (e1.symm.trans e)
      rw [nK_size (by omega), nK_size (by simp)] at h1
      omega), e2, decide_eq_true (h.late _ (List.getElem_mem hi2))]
    rfl
  have hcut : cutC F = F := by
    unfold cutC
    rw [if_neg (by have := h.len; omega)]
  have hput : putC F (delD (nK (Ls ++ [b]) (Ls.length + 1)) a t) (nK Ls Ls.length) 10 = F ++ [newCt (delD (nK (Ls ++ [b]) (Ls.length + 1)) a t) (nK Ls Ls.length) 10] := by
    unfold putC
    rw [hm, if_pos rfl, show (delD (nK (Ls ++ [b]) (Ls.length + 1)) a t).c = nK (Ls ++ [b]) (Ls.length + 1) from rfl, hfd, hkeep, hcut]
  refine ⟨yes_may hm, ?_⟩
  rw [hput]
  refine ⟨by simp [h.len], by simp [h.ulen], by simp; omega, ?_, ?_, ?_, ?_⟩
  · intro x hx
    rcases List.mem_append.1 hx with hx | hx
    · exact h.low x hx
    · simp at hx; subst hx; exact hb
  · intro x hx
    rcases List.mem_append.1 hx with hx | hx
    · exact h.q x hx
    · simp at hx; subst hx; exact hq
  · intro x hx
    rcases List.mem_append.1 hx with hx | hx
    · exact h.late x hx
    · simp at hx; subst hx; omega
  · intro i hi hi2
    have hl := h.len
    have hu := h.ulen
    by_cases hil : i < F.length
    · rw [List.getElem_append_left hil, List.getElem_append_left (by omega), nK_snoc (by omega)]
      exact h.at' i hil (by omega)
    · have hie : i = F.length := by simp at hi; omega
      subst hie
      rw [List.getElem_append_right (Nat.le_refl _), List.getElem_append_right (by omega)]
      simp only [Nat.sub_self, List.getElem_cons_zero]
      refine ⟨?_, ?_⟩
      · show fdB (nK (Ls ++ [b]) (Ls.length + 1)) = _
        rw [hfd, hl]
      · show 10 + lastI t = _
        rw [last_id h1 h2]
        simp [hl, hu]
/-- Which is wanted of the first so many. -/
def wantK (Ls : List UInt8) (Us : List Int) (m : Int) : Nat → ByteArray
  | 0 => rootB
  | k + 1 => if m < Us.getD k 0 then nK Ls (k + 1) else wantK Ls Us m k
theorem find_deep {Ls : List UInt8} {Us : List Int} {F : List Ct} (h : FDeep Ls Us F) (m : Int) {k : Nat} (hk : k < Ls.length) : (liveF F (nK Ls (k + 1)) m).isSome = decide (m < Us.getD k 0) := by
  have hl := h.len
  have hu := h.ulen
  have hf : F.find? (fun c => decide (c.n = nK Ls (k + 1))) = some (F[k]'(by omega)) := by
    refine List.find?_eq_some_iff_getElem.2 ⟨by rw [(h.at' k (by omega) (by omega)).1]; simp, k, by omega, rfl, fun j hj => ?_⟩
    rw [(h.at' j (by omega) (by omega)).1]
    simp only [Bool.not_eq_true', decide_eq_false_iff_not]
    intro e
    have h1 := congrArg ByteArray.size e
    rw [nK_size (by omega), nK_size (by omega)] at h1
    omega
  unfold liveF
  rw [hf]
  simp only
  rw [(h.at' k (by omega) (by omega)).2, List.getD_eq_getElem?_getD, List.getElem?_eq_getElem (by omega), Option.getD_some]
  by_cases e : m < Us[k]'(by omega)
  · rw [if_pos e, decide_eq_true e]; rfl
  · rw [if_neg e, decide_eq_false e]; rfl
theorem liveF_none {F : List Ct} {n : ByteArray} {m : Int} (h : ∀ c ∈ F, c.n ≠ n) : liveF F n m = none := by
  unfold liveF
  rw [List.find?_eq_none.2 (fun c hc => by simpa using h c hc)]
theorem deep_want {Ls : List UInt8} {Us : List Int} {F : List Ct} (h : FDeep Ls Us F) (m : Int) {f : ByteArray} (hf : ∀ k, k ≤ Ls.length → lastB f k = nK Ls k) : ∀ k, k ≤ Ls.length → lastB f (deepK (lvF F f m) k) = wantK Ls Us m k := by
  intro k
  induction k with
  | zero => intro _; exact last_zero f
  | succ k ih =>
    intro hk
    unfold deepK wantK
    have e : lvF F f m (k + 1) = decide (m < Us.getD k 0) := by
      unfold lvF
      rw [hf _ hk]
      exact find_deep h m (by omega)
    rw [e]
    by_cases e2 : m < Us.getD k 0
    · rw [decide_eq_true e2, if_pos rfl, if_pos e2, hf _ hk]
    · rw [decide_eq_false e2, if_neg (by simp), if_neg e2]
      exact ih (by omega)
theorem rev_drop (Ls : List UInt8) {k : Nat} (hk : k ≤ Ls.length) : Ls.reverse.drop (Ls.length - k) = (Ls.take k).reverse := by
  rw [List.drop_reverse]
  congr 1
  congr 1
  omega
theorem deep_at {Ls : List UInt8} {Us : List Int} {F : List Ct} (h : FDeep Ls Us F) (m : Int) : deepF F (nK Ls Ls.length) m = wantK Ls Us m Ls.length := by
  have h9 := h.nine
  have hfd : fdB (nmB Ls.reverse) = nmB Ls.reverse := nm_fd (by simp; omega) (fun x hx => h.low x (List.mem_reverse.1 hx))
  have hn := nm_name (R := Ls.reverse) (by simp; omega)
  rw [nK_full]
  unfold deepF
  rw [if_pos (by rw [nmB_list]; exact hn.1), hfd, nmB_list, hn.2]
  rw [show (Ls.reverse.map fun b => [b]).length = Ls.length by simp]
  refine deep_want h m (fun k hk => ?_) _ (Nat.le_refl _)
  rw [nm_last (by simp; omega), List.length_reverse, rev_drop Ls hk]
  rfl
theorem deep_under {Ls : List UInt8} {Us : List Int} {F : List Ct} (h : FDeep Ls Us F) (m : Int) : deepF F (nmB (122 :: Ls.reverse)) m = wantK Ls Us m Ls.length := by
  have h9 := h.nine
  have hfd : fdB (nmB (122 :: Ls.reverse)) = nmB (122 :: Ls.reverse) := nm_fd (by simp; omega) (fun x hx => by
    rcases List.mem_cons.1 hx with rfl | hx
    · exact ⟨by decide, by decide⟩
    · exact h.low x (List.mem_reverse.1 hx))
  have hn := nm_name (R := 122 :: Ls.reverse) (by simp; omega)
  unfold deepF
  rw [if_pos (by rw [nmB_list]; exact hn.1), hfd, nmB_list, hn.2]
  rw [show ((122 :: Ls.reverse).map fun b => [b]).length = Ls.length + 1 by simp]
  have hno : lvF F (nmB (122 :: Ls.reverse)) m (Ls.length + 1) = false := by
    unfold lvF
    rw [nm_last (by simp; omega), liveF_none (fun c hc e => ?_)]
    · rfl
    · obtain ⟨i, hi, rfl⟩ := List.getElem_of_mem hc
      have hl := h.len
      rw [(h.at' i hi (by rw [h.ulen, ← hl]; exact hi)).1] at e
      have h1 := congrArg ByteArray.size e
      rw [nK_size (by omega), nmB_size] at h1
      simp at h1
      omega
  rw [deepK, hno, if_neg (by simp)]
  refine deep_want h m (fun k hk => ?_) _ (Nat.le_refl _)
  rw [nm_last (by simp; omega), List.length_cons, List.length_reverse, show Ls.length + 1 - k = (Ls.length - k) + 1 by omega, List.drop_succ_cons, rev_drop Ls hk]
  rfl
theorem deep_q {Ls : List UInt8} {Us : List Int} {F : List Ct} (h : FDeep Ls Us F) (m : Int) : deepF F ⟨#[1, 113, 0]⟩ m = rootB := by
  have h1 : deepF F ⟨#[1, 113, 0]⟩ m = lastB ⟨#[1, 113, 0]⟩ (deepK (lvF F ⟨#[1, 113, 0]⟩ m) 1) := by
    unfold deepF
    rw [if_pos (by decide), show fdB ⟨#[1, 113, 0]⟩ = ⟨#[1, 113, 0]⟩ by rfl, show (labs (⟨#[1, 113, 0]⟩ : ByteArray).data.toList).length = 1 by decide]
  have hno : lvF F ⟨#[1, 113, 0]⟩ m 1 = false := by
    unfold lvF
    rw [show lastB ⟨#[1, 113, 0]⟩ 1 = ⟨#[1, 113, 0]⟩ by rfl, liveF_none (fun c hc e => ?_)]
    · rfl
    · obtain ⟨i, hi, rfl⟩ := List.getElem_of_mem hc
      have hl := h.len
      rw [(h.at' i hi (by rw [h.ulen, ← hl]; exact hi)).1] at e
      have h2 := congrArg ByteArray.size e
      rw [nK_size (by omega), show (⟨#[1, 113, 0]⟩ : ByteArray).size = 3 by rfl] at h2
      have hi0 : i = 0 := by omega
      subst hi0
      have h0 : 0 < Ls.length := by omega
      have hq := h.q _ (List.getElem_mem h0)
      cases Ls with
      | nil => simp at h0
      | cons b T =>
        have h3 := congrArg (fun x : ByteArray => x.data.toList) e
        unfold nK at h3
        simp only [nmB_list, Nat.zero_add, List.take_succ_cons, List.take_zero, List.reverse_cons, List.reverse_nil, List.nil_append] at h3
        rw [show nmR [b] = [1, b, 0] by rfl] at h3
        simp at h3
        exact hq (by simpa using h3)
  rw [h1, deepK, hno, if_neg (by simp), deepK, last_zero]

end Cu
end Go.Proofs.Ytnjgdfmldjgloaa
