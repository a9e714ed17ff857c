/- Names that were written are read again: plain facts on bytes, with no word of the program. -/
import Derived.Test.YtdogjbblnjjaaabCpB
namespace Go.Proofs.Ytdogjbblnjjaaab.Pl

/-- The bytes from p on read as r, in at most so many steps; b: the place behind. -/
def Rd (l : List UInt8) : Nat → Nat → Nat → List UInt8 → Nat → Prop
  | 0, _, _, _, _ => False
  | d + 1, p, g, r, b => p < l.length ∧
    (((l.getD p 0).toNat = 0 ∧ r = [0] ∧ b = p + 1) ∨
     ((l.getD p 0).toNat ≠ 0 ∧ (l.getD p 0).toNat ≤ 63 ∧ p + 1 + (l.getD p 0).toNat ≤ l.length ∧ ∃ r', r = (l.drop p).take (1 + (l.getD p 0).toNat) ++ r' ∧ Rd l d (p + 1 + (l.getD p 0).toNat) g r' b) ∨
     (191 < (l.getD p 0).toNat ∧ p + 2 ≤ l.length ∧ ptrAt l p < g ∧ b = p + 2 ∧ ∃ b', Rd l d (ptrAt l p) (ptrAt l p) r b'))

theorem rd_gives {l : List UInt8} : ∀ (d p g : Nat) (r : List UInt8) (b : Nat) (o : List UInt8) (x : Option Nat) (R : Option (List UInt8 × Nat)), Rd l d p g r b → o.length + r.length ≤ 255 → RAt l p g o x R → R = some (o ++ r, x.getD b) := by
  intro d
  induction d with
  | zero => intro p g r b o x R h; exact absurd h (by simp [Rd])
  | succ d ih =>
    intro p g r b o x R h hl hr
    obtain ⟨hp, h⟩ := h
    rw [getD_get hp] at h
    rcases h with ⟨h0, rfl, rfl⟩ | ⟨h0, h1, h2, r', rfl, h3⟩ | ⟨h0, h1, h2, rfl, b', h3⟩
    · exact r_zero hr hp h0 (by simp at hl; omega)
    · have hll := lab_len (l := l) (p := p) h2
      rw [List.length_append, hll] at hl
      have := ih _ _ _ _ _ _ _ h3 (by rw [List.length_append, hll]; omega) (r_lab hr hp h0 h1 h2 (by omega))
      rw [this, List.append_assoc]
    · have := ih _ _ _ _ _ _ _ h3 hl (r_ptr hr hp h0 h1 h2)
      rw [this]; rfl

theorem rd_name {l : List UInt8} {d p : Nat} {r : List UInt8} {b : Nat} (h : Rd l d p p r b) (hl : r.length ≤ 255) : nameOf l p = some (r, b) := by
  have := rd_gives d p p r b [] none _ h (by simpa using hl) (r_start l p)
  simpa using this

theorem getD_app {l e : List UInt8} {p : Nat} (h : p < l.length) : (l ++ e).getD p 0 = l.getD p 0 := by
  rw [List.getD_eq_getElem?_getD, List.getD_eq_getElem?_getD, List.getElem?_append_left h]
theorem take_app {l e : List UInt8} {p k : Nat} (h : p + k ≤ l.length) : ((l ++ e).drop p).take k = (l.drop p).take k := by
  rw [List.drop_append_of_le_length (by omega), List.take_append_of_le_length (by rw [List.length_drop]; omega)]
theorem ptr_mono {l e : List UInt8} {p : Nat} (h : p + 2 ≤ l.length) : ptrAt (l ++ e) p = ptrAt l p := by
  unfold ptrAt; rw [getD_app (by omega), getD_app (by omega)]
theorem rd_app {l : List UInt8} (e : List UInt8) : ∀ (d p g : Nat) (r : List UInt8) (b : Nat), Rd l d p g r b → Rd (l ++ e) d p g r b := by
  intro d
  induction d with
  | zero => intro p g r b h; exact h
  | succ d ih =>
    intro p g r b h
    obtain ⟨hp, h⟩ := h
    refine ⟨by rw [List.length_append]; omega, ?_⟩
    rw [getD_app hp]
    rcases h with h | ⟨h0, h1, h2, r', rfl, h3⟩ | ⟨h0, h1, h2, rfl, b', h3⟩
    · exact .inl h
    · exact .inr (.inl ⟨h0, h1, by rw [List.length_append]; omega, r', by rw [take_app (by omega)], ih _ _ _ _ h3⟩)
    · rw [ptr_mono h1]
      exact .inr (.inr ⟨h0, by rw [List.length_append]; omega, h2, rfl, b', ih _ _ _ _ h3⟩)
theorem rd_g {l : List UInt8} : ∀ (d p g g' : Nat) (r : List UInt8) (b : Nat), g ≤ g' → Rd l d p g r b → Rd l d p g' r b := by
  intro d
  induction d with
  | zero => intro p g g' r b _ h; exact h
  | succ d ih =>
    intro p g g' r b hg h
    obtain ⟨hp, h⟩ := h
    refine ⟨hp, ?_⟩
    rcases h with h | ⟨h0, h1, h2, r', rfl, h3⟩ | ⟨h0, h1, h2, rfl, b', h3⟩
    · exact .inl h
    · exact .inr (.inl ⟨h0, h1, h2, r', rfl, ih _ _ _ _ _ hg h3⟩)
    · exact .inr (.inr ⟨h0, h1, by omega, rfl, b', h3⟩)

/-- The first e bytes of n stand in l at P. -/
def Copied (l : List UInt8) (P : Nat) (n : List UInt8) (e : Nat) : Prop := e ≤ n.length ∧ P + e ≤ l.length ∧ (l.drop P).take e = n.take e
theorem copied_at {l : List UInt8} {P : Nat} {n : List UInt8} {e p k : Nat} (h : Copied l P n e) (hp : p + k ≤ e) : (l.drop (P + p)).take k = (n.drop p).take k := by
  have h1 := congrArg (fun x => (x.drop p).take k) h.2.2
  simp only [List.drop_take, List.drop_drop, List.take_take] at h1
  rw [show min k (e - p) = k from by omega] at h1
  exact h1
theorem copied_get {l : List UInt8} {P : Nat} {n : List UInt8} {e p : Nat} (h : Copied l P n e) (hp : p < e) : l.getD (P + p) 0 = n.getD p 0 := by
  have h1 := copied_at (p := p) (k := 1) h (by omega)
  have hl := h.2.1
  have hn := h.1
  rw [drop_at l (P + p) (by omega), drop_at n p (by omega)] at h1
  simp only [List.take_succ_cons, List.take_zero, List.cons.injEq, and_true] at h1
  rw [getD_get (by omega), getD_get (by omega), h1]

/-- Labels that stand somewhere, and an end that reads as the rest: the whole name is read. -/
theorem rd_labels {l : List UInt8} {P g b e : Nat} {n : List UInt8} {ms : Marks} (hc : Copied l P n e) {d0 : Nat} (he : Rd l d0 (P + e) g (n.drop e) b) : ∀ (f p : Nat), n.length ≤ f + p → NAt n p → (spl f ms n p).1 = e → ∃ d, Rd l d (P + p) g (n.drop p) b := by
  intro f
  induction f with
  | zero => intro p hf hn; have := nat_lt hn; omega
  | succ f ih =>
    intro p hf hn hs
    have hp := nat_lt hn
    rw [spl, getD_get hp] at hs
    by_cases h0 : n[p].toNat = 0
    · rw [if_pos h0] at hs
      simp only at hs
      subst hs
      exact ⟨d0, he⟩
    · rw [if_neg h0] at hs
      cases hq : plc ms (n.drop p) with
      | some q =>
        rw [hq] at hs
        simp only at hs
        subst hs
        exact ⟨d0, he⟩
      | none =>
        rw [hq] at hs
        simp only at hs
        obtain ⟨h1, h2, h3⟩ := nat_step hn hp h0
        obtain ⟨d, hd⟩ := ih (p + 1 + n[p].toNat) (by omega) h3 hs
        have hge := spl_ge f ms n (p + 1 + n[p].toNat)
        rw [hs] at hge
        have hgd : l.getD (P + p) 0 = n[p] := by rw [copied_get hc (by omega), getD_get hp]
        have hcl := hc.2.1
        refine ⟨d + 1, by omega, .inr (.inl ?_)⟩
        rw [hgd]
        refine ⟨h0, h1, by omega, n.drop (p + 1 + n[p].toNat), ?_, by rw [show P + p + 1 + n[p].toNat = P + (p + 1 + n[p].toNat) from by omega]; exact hd⟩
        rw [copied_at hc (by omega)]
        have := List.take_append_drop (1 + n[p].toNat) (n.drop p)
        rw [List.drop_drop, show p + (1 + n[p].toNat) = p + 1 + n[p].toNat from by omega] at this
        exact this.symm

theorem ptr_here (a r : List UInt8) (q : Nat) (hq : q < 16384) : ptrAt (a ++ (ptrB q ++ r)) a.length = q := by
  unfold ptrAt
  have h0 : (a ++ (ptrB q ++ r)).getD a.length 0 = UInt8.ofNat (192 + q / 256) := by rw [List.getD_eq_getElem?_getD, List.getElem?_append_right (by omega)]; simp [ptrB]
  have h1 : (a ++ (ptrB q ++ r)).getD (a.length + 1) 0 = UInt8.ofNat (q % 256) := by rw [List.getD_eq_getElem?_getD, List.getElem?_append_right (by omega)]; simp [ptrB]
  rw [h0, h1, toNat_of (by omega), toNat_of (by omega)]
  omega
/-- A pointer to what reads as r reads as r. -/
theorem rd_ptr {a r t : List UInt8} {q d b g : Nat} (hq : q < 16384) (hg : q < g) (h : Rd (a ++ (ptrB q ++ t)) d q q r b) : Rd (a ++ (ptrB q ++ t)) (d + 1) a.length g r (a.length + 2) := by
  refine ⟨by simp [ptrB], .inr (.inr ?_)⟩
  have h0 : (a ++ (ptrB q ++ t)).getD a.length 0 = UInt8.ofNat (192 + q / 256) := by rw [List.getD_eq_getElem?_getD, List.getElem?_append_right (by omega)]; simp [ptrB]
  rw [h0, toNat_of (by omega), ptr_here a t q hq]
  exact ⟨by omega, by simp [ptrB], hg, rfl, b, h⟩
theorem rd_zero {a t : List UInt8} {g : Nat} : Rd (a ++ (0 :: t)) 1 a.length g [0] (a.length + 1) := by
  refine ⟨by simp, .inl ?_⟩
  rw [List.getD_eq_getElem?_getD, List.getElem?_append_right (by omega)]
  simp

/-- A name that stands whole. -/
theorem rd_whole {n : List UInt8} (hn : isName n = true) (a t : List UInt8) (g : Nat) : ∃ d, Rd (a ++ (n ++ t)) d a.length g n (a.length + n.length) := by
  have hl := name_ne hn
  have hat := splN_at hn []
  rcases splN_end hn [] with ⟨h1, h0, h2⟩ | ⟨q, hq, _⟩
  · obtain ⟨E, hE⟩ : ∃ E, E = (splN [] n).1 := ⟨_, rfl⟩
    simp only [← hE] at h1 h0 hat
    have hz := nat_zero hat h1 h0
    have hr := nat_root hat h1 h0
    have hn2 : n = n.take E ++ [0] := by rw [← hr, List.take_append_drop]
    have hend : Rd (a ++ (n ++ t)) 1 (a.length + E) g (n.drop E) (a.length + n.length) := by
      have e1 : a ++ (n ++ t) = (a ++ n.take E) ++ (0 :: t) := by
        have : n ++ t = n.take E ++ [0] ++ t := by rw [← hn2]
        rw [this]; simp
      have e2 : (a ++ n.take E).length = a.length + E := by rw [List.length_append, List.length_take]; omega
      have := rd_zero (a := a ++ n.take E) (t := t) (g := g)
      rw [e2] at this
      rw [e1, hr, ← hz]
      exact this
    have hc : Copied (a ++ (n ++ t)) a.length n E := by
      refine ⟨by omega, by simp; omega, ?_⟩
      rw [List.drop_left, List.take_append_of_le_length (by omega)]
    obtain ⟨d, hd⟩ := rd_labels (ms := []) hc hend n.length 0 (by omega) (nat_start hn) hE.symm
    exact ⟨d, by simpa using hd⟩
  · simp [plc] at hq
theorem name_whole {n : List UInt8} (hn : isName n = true) (a t : List UInt8) : nameOf (a ++ (n ++ t)) a.length = some (n, a.length + n.length) := by
  obtain ⟨d, hd⟩ := rd_whole hn a t a.length
  exact rd_name hd (name_some hn).1
/-- A pointer to a name that stands whole at the head. -/
theorem name_ptr0 {n : List UInt8} (hn : isName n = true) (u t : List UInt8) : nameOf (n ++ u ++ (ptrB 0 ++ t)) (n.length + u.length) = some (n, n.length + u.length + 2) := by
  obtain ⟨d, hd⟩ := rd_whole hn [] (u ++ (ptrB 0 ++ t)) 0
  have hl := name_ne hn
  have e : (n ++ u).length = n.length + u.length := by rw [List.length_append]
  have h2 : Rd (n ++ u ++ (ptrB 0 ++ t)) d 0 0 n n.length := by
    have : n ++ u ++ (ptrB 0 ++ t) = [] ++ (n ++ (u ++ (ptrB 0 ++ t))) := by simp
    rw [this]
    simpa using hd
  have h3 := rd_ptr (a := n ++ u) (t := t) (q := 0) (g := n.length + u.length) (by decide) (by omega) h2
  rw [e] at h3
  exact rd_name h3 (name_some hn).1

end Go.Proofs.Ytdogjbblnjjaaab.Pl
