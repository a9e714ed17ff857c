/- What a Writer has written is read again: plain facts on bytes, with no word of the program. -/
import Derived.Test.YtpfbmemejajbjaaCpM
namespace Go.Proofs.Ytpfbmemejajbjaa.Pl

/-- Each rest reads at its place as itself. -/
def MInv (B : List UInt8) (ms : Marks) : Prop := ∀ r q, (r, q) ∈ ms → q < B.length ∧ ∃ d b, Rd B d q q r b

theorem sts_spl {ms : Marks} {n : List UInt8} {E : Nat} : ∀ (f p q : Nat), n.length ≤ f + p → NAt n p → (spl f ms n p).1 = E → q ∈ sts f n p E → ∃ f', n.length ≤ f' + q ∧ NAt n q ∧ (spl f' ms n q).1 = E := by
  intro f
  induction f with
  | zero => intro p q _ _ _ hq; simp [sts] at hq
  | succ f ih =>
    intro p q hf hn hs hq
    have hp := nat_lt hn
    rw [sts] at hq
    split at hq
    · rename_i hlt
      rcases List.mem_cons.1 hq with rfl | hq
      · exact ⟨f + 1, hf, hn, hs⟩
      · rw [getD_get hp] at hq
        rw [spl, getD_get hp] at hs
        by_cases h0 : n[p].toNat = 0
        · rw [if_pos h0] at hs; simp only at hs; omega
        · rw [if_neg h0] at hs
          cases hpl : plc ms (n.drop p) with
          | some x => rw [hpl] at hs; simp only at hs; omega
          | none =>
            rw [hpl] at hs
            exact ih _ _ (by omega) (nat_step hn hp h0).2.2 hs hq
    · simp at hq

theorem write_end {B : List UInt8} {ms : Marks} {n : List UInt8} (hn : isName n = true) (hm : MInv B ms) (hB : B.length ≤ 16384) (g : Nat) (hg : B.length ≤ g) : ∃ d, Rd (outW B ms n) d (B.length + (splN ms n).1) g (n.drop (splN ms n).1) (B.length + sizW ms n) := by
  have hat := splN_at hn ms
  have hlt := nat_lt hat
  have hl : (B ++ n.take (splN ms n).1).length = B.length + (splN ms n).1 := by rw [List.length_append, List.length_take]; omega
  rcases splN_end hn ms with ⟨h1, h0, h2⟩ | ⟨q, hq, h2⟩
  · have hr := nat_root hat h1 h0
    have e : outW B ms n = (B ++ n.take (splN ms n).1) ++ (0 :: []) := by unfold outW; rw [h2]; simp
    have := rd_zero (a := B ++ n.take (splN ms n).1) (t := []) (g := g)
    rw [hl] at this
    refine ⟨1, ?_⟩
    rw [e, hr]
    unfold sizW
    rw [h2]
    exact this
  · obtain ⟨hqB, d, b, hd⟩ := hm _ _ (plc_mem hq)
    have e : outW B ms n = (B ++ n.take (splN ms n).1) ++ (ptrB q ++ []) := by unfold outW; rw [h2]; simp
    have hd2 : Rd ((B ++ n.take (splN ms n).1) ++ (ptrB q ++ [])) d q q (n.drop (splN ms n).1) b := by
      have := rd_app (n.take (splN ms n).1 ++ (ptrB q ++ [])) d q q _ b hd
      rw [← List.append_assoc] at this
      exact this
    have := rd_ptr (a := B ++ n.take (splN ms n).1) (t := []) (g := g) (by omega) (by omega) hd2
    rw [hl] at this
    refine ⟨d + 1, ?_⟩
    rw [e]
    unfold sizW
    rw [h2]
    exact this
theorem write_copied {B : List UInt8} {ms : Marks} {n : List UInt8} (hn : isName n = true) : Copied (outW B ms n) B.length n (splN ms n).1 := by
  have hlt := nat_lt (splN_at hn ms)
  refine ⟨by omega, ?_, ?_⟩
  · unfold outW; rw [List.length_append, List.length_append, List.length_take]; omega
  · unfold outW; rw [List.drop_left, List.take_append_of_le_length (by rw [List.length_take]; omega), List.take_take, Nat.min_self]
theorem write_rest {B : List UInt8} {ms : Marks} {n : List UInt8} (hn : isName n = true) (hm : MInv B ms) (hB : B.length ≤ 16384) (q : Nat) (hq : q ∈ sts n.length n 0 (splN ms n).1) : ∃ d, Rd (outW B ms n) d (B.length + q) (B.length + q) (n.drop q) (B.length + sizW ms n) := by
  obtain ⟨f', h1, h2, h3⟩ := sts_spl n.length 0 q (by omega) (nat_start hn) rfl hq
  obtain ⟨d0, he⟩ := write_end hn hm hB (B.length + q) (by omega)
  exact rd_labels (write_copied hn) he f' q h1 h2 h3
theorem write_name {B : List UInt8} {ms : Marks} {n : List UInt8} (hn : isName n = true) (hm : MInv B ms) (hB : B.length ≤ 16384) : ∃ d, Rd (outW B ms n) d B.length B.length n (B.length + sizW ms n) := by
  obtain ⟨d0, he⟩ := write_end hn hm hB B.length (Nat.le_refl _)
  obtain ⟨d, hd⟩ := rd_labels (ms := ms) (write_copied hn) he n.length 0 (by omega) (nat_start hn) rfl
  exact ⟨d, by simpa using hd⟩
theorem write_inv {B : List UInt8} {ms : Marks} {n : List UInt8} (hn : isName n = true) (hm : MInv B ms) (hB : B.length ≤ 16384) : MInv (outW B ms n) (marW B ms n) := by
  intro r q hq
  have hlt := nat_lt (splN_at hn ms)
  unfold marW at hq
  rcases List.mem_append.1 hq with hq | hq
  · obtain ⟨h1, d, b, hd⟩ := hm r q hq
    refine ⟨by unfold outW; rw [List.length_append]; omega, d, b, ?_⟩
    unfold outW
    exact rd_app _ d q q r b hd
  · simp only [newM, mkM, List.mem_map, Prod.mk.injEq] at hq
    obtain ⟨p, hp, rfl, rfl⟩ := hq
    obtain ⟨d, hd⟩ := write_rest hn hm hB p hp
    have := (splN_miss hn ms p hp).2.1
    refine ⟨by unfold outW; rw [List.length_append, List.length_append, List.length_take]; omega, d, _, hd⟩

/-- Names were written at 'as', one behind the other. -/
def Bk (B : List UInt8) (ms : Marks) (as : List Nat) (ks : List (List UInt8)) : Prop :=
  MInv B ms ∧ as.length = ks.length ∧ ∀ i, i < ks.length → isName (ks.getD i []) = true ∧ ∃ d, Rd B d (as.getD i 0) (as.getD i 0) (ks.getD i []) ((as ++ [B.length]).getD (i + 1) 0)
theorem bk_start (B : List UInt8) : Bk B [] [] [] := ⟨fun r q h => by simp at h, rfl, fun i h => by simp at h⟩
theorem getD_lt {α : Type} (a b : List α) (i : Nat) (d : α) (h : i < a.length) : (a ++ b).getD i d = a.getD i d := by
  rw [List.getD_eq_getElem?_getD, List.getD_eq_getElem?_getD, List.getElem?_append_left h]
theorem getD_at {α : Type} (a b : List α) (i : Nat) (d : α) (h : i = a.length) : (a ++ b).getD i d = b.getD 0 d := by
  rw [List.getD_eq_getElem?_getD, List.getD_eq_getElem?_getD, List.getElem?_append_right (by omega), h, Nat.sub_self]
theorem bk_next {B : List UInt8} {ms : Marks} {as : List Nat} {ks : List (List UInt8)} {n : List UInt8} (h : Bk B ms as ks) (hn : isName n = true) (hB : B.length ≤ 16384) (hl : (outW B ms n).length = B.length + sizW ms n) : Bk (outW B ms n) (marW B ms n) (as ++ [B.length]) (ks ++ [n]) := by
  obtain ⟨h1, h2, h3⟩ := h
  refine ⟨write_inv hn h1 hB, by simp [h2], fun i hi => ?_⟩
  rw [List.length_append] at hi
  by_cases e : i < ks.length
  · obtain ⟨a, d, b⟩ := h3 i e
    rw [getD_lt ks _ i _ e, getD_lt as _ i _ (by omega), getD_lt (as ++ [B.length]) _ (i + 1) _ (by rw [List.length_append]; simp; omega)]
    refine ⟨a, d, ?_⟩
    unfold outW
    exact rd_app _ _ _ _ _ _ b
  · have ei : i = ks.length := by simp at hi; omega
    rw [getD_at ks _ i _ ei, getD_at as _ i _ (by omega), getD_at (as ++ [B.length]) _ (i + 1) _ (by rw [List.length_append]; simp; omega)]
    obtain ⟨d, hd⟩ := write_name hn h1 hB
    refine ⟨hn, d, ?_⟩
    rw [hl]
    exact hd
theorem bk_read {B : List UInt8} {ms : Marks} {as : List Nat} {ks : List (List UInt8)} (h : Bk B ms as ks) {i : Nat} (hi : i < ks.length) : nameOf B (as.getD i 0) = some (ks.getD i [], (as ++ [B.length]).getD (i + 1) 0) := by
  obtain ⟨h1, d, h2⟩ := h.2.2 i hi
  exact rd_name h2 (name_some h1).1

end Go.Proofs.Ytpfbmemejajbjaa.Pl
