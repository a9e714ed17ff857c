/- StoreRoom, plainly: what is held and what the law holds are the same ends. -/
import Derived.Test.YtcmhjlflgedcdaaXStW
import Derived.Test.YtcmhjlflgedcdaaXInA
namespace Go.Proofs.Ytcmhjlflgedcdaa
open Go.RowKit
open Pl

/-- The place of the least of the first j numbers. -/
def amin (l : List Int) : Nat → Nat
  | 0 => 0
  | j + 1 => if l.getD j 0 < l.getD (amin l j) 0 then j else amin l j
theorem amin_one (l : List Int) : amin l 1 = 0 := by simp [amin]
theorem amin_lt (l : List Int) : ∀ {j : Nat}, 1 ≤ j → amin l j < j := by
  intro j
  induction j with
  | zero => intro h; omega
  | succ j ih =>
    intro _
    unfold amin
    split
    · omega
    · by_cases h0 : j = 0
      · subst h0; simp [amin]
      · have := ih (by omega); omega
theorem amin_least (l : List Int) : ∀ {j : Nat} (i : Nat), i < j → l.getD (amin l j) 0 ≤ l.getD i 0 := by
  intro j
  induction j with
  | zero => intro i hi; omega
  | succ j ih =>
    intro i hi
    unfold amin
    split
    · rename_i h
      by_cases e : i = j
      · subst e; exact Int.le_refl _
      · have := ih i (by omega); omega
    · rename_i h
      by_cases e : i = j
      · subst e; omega
      · exact ih i (by omega)
/-- The last takes its place. -/
def cutA (l : List Int) (m : Nat) : List Int := (l.set m (l.getD (l.length - 1) 0)).take (l.length - 1)
theorem cutA_len {l : List Int} (m : Nat) : (cutA l m).length = l.length - 1 := by
  unfold cutA
  rw [List.length_take, List.length_set]
  omega
theorem set_perm {a : List Int} {m : Nat} (hm : m < a.length) (z : Int) : (a.set m z).Perm (a.eraseIdx m ++ [z]) := by
  rw [List.set_eq_take_append_cons_drop, if_pos hm, List.eraseIdx_eq_take_drop_succ]
  exact List.perm_middle.trans (List.perm_append_singleton _ _).symm
theorem cutA_perm {l : List Int} {m : Nat} (hm : m < l.length) : (cutA l m).Perm (l.eraseIdx m) := by
  have hne : l ≠ [] := by intro e; subst e; simp at hm
  obtain ⟨a, z, rfl⟩ : ∃ a z, l = a ++ [z] := ⟨l.dropLast, l.getLast hne, (List.dropLast_concat_getLast hne).symm⟩
  have e1 : (a ++ [z]).getD ((a ++ [z]).length - 1) 0 = z := by simp
  unfold cutA
  rw [e1]
  have e2 : (a ++ [z]).length - 1 = a.length := by simp
  rw [e2]
  by_cases h : m < a.length
  · rw [List.set_append_left _ _ h, List.take_append_of_le_length (by rw [List.length_set]; exact Nat.le_refl _), List.take_of_length_le (by rw [List.length_set]; exact Nat.le_refl _), List.eraseIdx_append_of_lt_length h]
    exact set_perm h z
  · have hm' : m = a.length := by simp at hm; omega
    subst hm'
    rw [List.set_append_right _ _ (Nat.le_refl _)]
    simp [List.eraseIdx_append_of_length_le]

/-- The least of entries ends first. -/
theorem minK_u {L : List En} : ∀ {i : Nat} (_ : 1 ≤ i) (hi : i ≤ L.length) (hk : minK L i < L.length) (j : Nat) (hj : j < i), L[minK L i].u ≤ (L[j]'(by omega)).u := by
  intro i
  induction i with
  | zero => intro h; omega
  | succ i ih =>
    intro _ hi hk j hj
    by_cases h0 : i = 0
    · subst h0
      have e0 : minK L 1 = 0 := by have := minK_lt (L := L) (Nat.le_refl 1) (by omega); omega
      obtain rfl : j = 0 := by omega
      simp only [e0]
      exact Int.le_refl _
    · have hm := minK_lt (L := L) (i := i) (by omega) (by omega)
      have hs := minK_step (L := L) (i := i) (by omega) (by omega)
      cases hl : ltE (L[i]'(by omega)) (L[minK L i]'(by omega)) with
      | true =>
        rw [hl, if_pos rfl] at hs
        simp only [hs]
        have h1 : (L[i]'(by omega)).u ≤ (L[minK L i]'(by omega)).u := by rw [ltE_iff] at hl; omega
        by_cases e : j = i
        · subst e; exact Int.le_refl _
        · have := ih (by omega) (by omega) (by omega) j (by omega)
          omega
      | false =>
        rw [hl, if_neg (by simp)] at hs
        simp only [hs]
        have h1 : (L[minK L i]'(by omega)).u ≤ (L[i]'(by omega)).u := by
          have : ¬ ((L[i]'(by omega)).u < (L[minK L i]'(by omega)).u) := fun e => by
            have := ltE_iff.2 (.inl e)
            rw [hl] at this; cases this
          omega
        by_cases e : j = i
        · subst e; exact h1
        · exact ih (by omega) (by omega) (by omega) j (by omega)
theorem erase_perm {A : Type} {l : List A} {i : Nat} (h : i < l.length) : (l[i] :: l.eraseIdx i).Perm l := by
  have e : l = l.take i ++ l[i] :: l.drop (i + 1) := by rw [List.getElem_cons_drop, List.take_append_drop]
  rw [List.eraseIdx_eq_take_drop_succ]
  exact List.perm_middle.symm.trans (List.Perm.of_eq e.symm)
theorem cut_both {F : List En} {l : List Int} (hp : l.Perm (F.map En.u)) (h0 : 0 < l.length) : (cutA l (amin l l.length)).Perm ((F.eraseIdx (minP F)).map En.u) := by
  have hlen : l.length = F.length := by have := hp.length_eq; simpa using this
  have hm := amin_lt l (j := l.length) h0
  have hq := minP_lt (L := F) (by omega)
  refine (cutA_perm hm).trans ?_
  have p1 := erase_perm hm
  have p2 := erase_perm hq
  have e : l[amin l l.length] = (F[minP F]).u := by
    have a1 : l[amin l l.length] ∈ F.map En.u := hp.mem_iff.1 (List.getElem_mem _)
    obtain ⟨x, hx, ex⟩ := List.mem_map.1 a1
    obtain ⟨i, hi, rfl⟩ := List.getElem_of_mem hx
    have b1 := minK_u (L := F) (i := F.length) (by omega) (Nat.le_refl _) hq i hi
    have a2 : (F[minP F]).u ∈ l := hp.mem_iff.2 (List.mem_map.2 ⟨_, List.getElem_mem _, rfl⟩)
    obtain ⟨i', hi', e'⟩ := List.getElem_of_mem a2
    have b2 := amin_least l (j := l.length) i' hi'
    rw [List.getD_eq_getElem?_getD, List.getD_eq_getElem?_getD, List.getElem?_eq_getElem hm, List.getElem?_eq_getElem hi', Option.getD_some, Option.getD_some] at b2
    have b1' : (F[minP F]).u ≤ F[i].u := b1
    omega
  have p3 : (l[amin l l.length] :: l.eraseIdx (amin l l.length)).Perm ((F[minP F]).u :: (F.eraseIdx (minP F)).map En.u) := p1.trans (hp.trans (by have := p2.symm.map En.u; simpa using this))
  rw [e] at p3
  exact p3.cons_inv

/-- What StoreRoom puts. -/
def nmR (j : Nat) : ByteArray := ⟨#[2, UInt8.ofNat j, 120, 0]⟩
def enR (j : Nat) (u : Int) : En := ⟨nmR j, 1, 5, awD, 3, u⟩
theorem nmR_all : ∀ j : Fin 60, isName (nmR j.1).data.toList = true ∧ fdB (nmR j.1) = nmR j.1 := by decide +kernel
theorem nmR_name {j : Nat} (h : j < 60) : isName (nmR j).data.toList = true ∧ fdB (nmR j) = nmR j := nmR_all ⟨j, h⟩
theorem nmR_inj {i j : Nat} (hi : i < 60) (hj : j < 60) (h : nmR i = nmR j) : i = j := by
  unfold nmR at h
  have e1 : UInt8.ofNat i = UInt8.ofNat j := by simpa using h
  have e2 := congrArg UInt8.toNat e1
  rw [UInt8.toNat_ofNat', UInt8.toNat_ofNat'] at e2
  omega
structure RmP (k i : Nat) (F : List En) (l : List Int) : Prop where
  perm : l.Perm (F.map En.u)
  own : ∀ e ∈ F, ∃ j u, j < i ∧ 5 < u ∧ e = enR j u
  few : F.length ≤ k
theorem RmP.len {k i : Nat} {F : List En} {l : List Int} (h : RmP k i F l) : l.length = F.length := by have := h.perm.length_eq; simpa using this
theorem rmP_nil (k : Nat) : RmP k 0 [] [] := ⟨List.Perm.refl _, fun e he => by simp at he, Nat.zero_le _⟩
theorem rm_may {j : Nat} {u : Int} (hj : j < 60) (hu : 5 < u) : mayE (enR j u) 5 = true := may_yes (nmR_name hj).1 (by simp [enR]) (by simp [enR]) (by simp [enR, awD]) (by simp [enR]) (by simp [enR]) hu (by decide) (by decide)
theorem rm_put {k i : Nat} {F : List En} {l : List Int} (h : RmP k i F l) (hi : i < 60) {u : Int} (hu : 5 < u) : putP k F (enR i u) 5 = cutP k F ++ [enR i u] := by
  have hf := (nmR_name hi).2
  have hs : ∀ y ∈ F, sameK (nmR i) 1 y = false ∧ 5 < y.u := fun y hy => by
    obtain ⟨j, v, hj, hv, rfl⟩ := h.own y hy
    refine ⟨?_, hv⟩
    cases e : sameK (nmR i) 1 (enR j v) with
    | false => rfl
    | true =>
      have := nmR_inj (by omega) hi (sameK_iff.1 e).1
      omega
  have hb : beatsP F (nmR i) 1 3 5 = false := by
    unfold beatsP
    rw [List.any_eq_false]
    intro y hy
    rw [(hs y hy).1]
    simp
  have hl : leftP F (nmR i) 1 5 = F := by
    unfold leftP
    rw [List.filter_eq_self]
    intro y hy
    rw [(hs y hy).1]
    simpa using (hs y hy).2
  have he : heldE (enR i u) = enR i u := by unfold heldE enR; rw [hf]
  have hm := rm_may hi hu
  unfold putP
  rw [hm, he]
  show (if (true && !beatsP F (fdB (nmR i)) 1 3 5) = true then cutP k (leftP F (fdB (nmR i)) 1 5) ++ [enR i u] else F) = _
  rw [hf, hb, hl]
  rfl
theorem rm_step {k i : Nat} {F : List En} {l : List Int} (h : RmP k i F l) (hk : 1 ≤ k) (hi : i < 60) {u : Int} (hu : 5 < u) : RmP k (i + 1) (putP k F (enR i u) 5) ((if l.length = k then cutA l (amin l l.length) else l) ++ [u]) := by
  rw [rm_put h hi hu]
  have hlen := h.len
  have hfew := h.few
  refine ⟨?_, fun e he => ?_, ?_⟩
  · rw [List.map_append]
    refine List.Perm.append ?_ (List.Perm.refl _)
    unfold cutP
    by_cases e : F.length = k
    · rw [if_pos (by omega), if_pos e]
      exact cut_both h.perm (by omega)
    · rw [if_neg (by omega), if_neg e]
      exact h.perm
  · rcases List.mem_append.1 he with he | he
    · obtain ⟨j, v, h1, h2, h3⟩ := h.own e (cut_mem he)
      exact ⟨j, v, by omega, h2, h3⟩
    · simp at he; subst he; exact ⟨i, u, by omega, hu, rfl⟩
  · have := cut_len h.few hk
    simp; omega

/-- A row of the call's own, cut. -/
theorem own_cut' {w : World} {B e z n cap g : Nat} {xs : List Value} (h : w.ownsRow B e z (.slice (some ⟨g, 0, none⟩) n cap) n xs) {i : Nat} (hi : i ≤ n) : w.ownsRow B e z (.slice (some ⟨g, 0, none⟩) i cap) i (xs.take (i * z)) := by
  have hle : i * z ≤ n * z := Nat.mul_le_mul_right _ hi
  refine ⟨by rw [List.length_take, h.1, Nat.min_eq_left hle], ?_⟩
  rcases h.2 with ⟨h1, _⟩ | ⟨g', cap', cur, h1, hb, hg, hnc, hcm, hcs, ht⟩
  · simp at h1
  · simp only [Value.slice.injEq, Option.some.injEq, Addr.mk.injEq, and_true, true_and] at h1
    obtain ⟨rfl, rfl⟩ := h1
    refine .inr ⟨g, cap, cur, rfl, hb, hg, by omega, hcm, hcs, ?_⟩
    rw [← ht, List.take_take, Nat.min_eq_left hle]

end Go.Proofs.Ytcmhjlflgedcdaa
