/- The places of a name's labels, and a text read loosely: plain facts on bytes, with no word of the program. -/
import Derived.Test.YtbldoplemfjcjaaPlainC
namespace Go.Proofs.Ytbldoplemfjcjaa.Pl

/-- The places of labels, each behind the other; the last one is where the walk stands. -/
def LbSteps (l : List UInt8) (qs : List Nat) : Prop :=
  qs.getD 0 1 = 0 ∧ ∀ i, i + 1 < qs.length → qs.getD i 0 < l.length ∧ (l.getD (qs.getD i 0) 0).toNat ≠ 0 ∧ qs.getD (i + 1) 0 = qs.getD i 0 + 1 + (l.getD (qs.getD i 0) 0).toNat

/-- The places of a name's labels and of its last byte. -/
def Places (l : List UInt8) (qs : List Nat) : Prop :=
  LbSteps l qs ∧ qs.length = cnt l + 1 ∧ qs.getD (cnt l) 0 < l.length ∧ (l.getD (qs.getD (cnt l) 0) 0).toNat = 0

theorem getD_left {α : Type} (a b : List α) (i : Nat) (d : α) (h : i < a.length) : (a ++ b).getD i d = a.getD i d := by
  rw [List.getD_eq_getElem?_getD, List.getD_eq_getElem?_getD, List.getElem?_append_left h]

theorem steps_start (l : List UInt8) : LbSteps l [0] := ⟨rfl, fun i h => by simp at h⟩

theorem steps_next {l : List UInt8} {qs : List Nat} {p : Nat} (h : LbSteps l (qs ++ [p])) (hp : p < l.length) (h0 : l[p].toNat ≠ 0) : LbSteps l (qs ++ [p] ++ [p + 1 + l[p].toNat]) := by
  have hg : l.getD p 0 = l[p] := by simp [hp]
  refine ⟨?_, fun i hi => ?_⟩
  · have := h.1
    rw [getD_left _ _ _ _ (by simp)]
    exact this
  · simp at hi
    by_cases e : i = qs.length
    · subst e
      have e1 : (qs ++ [p] ++ [p + 1 + l[p].toNat]).getD qs.length 0 = p := by simp
      have e2 : (qs ++ [p] ++ [p + 1 + l[p].toNat]).getD (qs.length + 1) 0 = p + 1 + l[p].toNat := by simp
      rw [e1, e2, hg]
      exact ⟨hp, h0, rfl⟩
    · have := h.2 i (by simp; omega)
      rw [getD_left _ _ i _ (by simp; omega), getD_left _ _ (i + 1) _ (by simp; omega)]
      exact this

/-- At a name's last byte. -/
theorem places_end {l : List UInt8} {qs : List Nat} {p : Nat} (h : LbSteps l (qs ++ [p])) (ha : At l p qs.length) (hs : l.length ≤ 255) (hp : p < l.length) (h0 : l[p].toNat = 0) (he : p + 1 = l.length) :
    isName l = true ∧ Places l (qs ++ [p]) := by
  have hn : nm l = some qs.length := by rw [nm_short hs, at_end ha hp h0, if_pos he]
  have hc : cnt l = qs.length := by unfold cnt; rw [hn]; rfl
  refine ⟨by unfold isName; rw [hn]; rfl, h, by simp [hc], ?_, ?_⟩
  · rw [hc]; simpa using hp
  · rw [hc]; simp [hp, h0]

/-- Between two places lies a label. -/
theorem txAt_place {l : List UInt8} {qs : List Nat} {i : Nat} {done : List UInt8} (h : LbSteps l qs) (hi : i + 1 < qs.length) (ht : TxAt l (qs.getD i 0) done) :
    TxAt l (qs.getD (i + 1) 0) (done ++ ((l.drop (qs.getD i 0 + 1)).take (qs.getD (i + 1) 0 - (qs.getD i 0 + 1))).flatMap esc ++ [46]) := by
  obtain ⟨h1, h2, h3⟩ := h.2 i hi
  have hg : l.getD (qs.getD i 0) 0 = l[qs.getD i 0] := by rw [List.getD_eq_getElem?_getD, List.getElem?_eq_getElem h1]; rfl
  rw [hg] at h2 h3
  rw [h3]
  have e : qs.getD i 0 + 1 + l[qs.getD i 0].toNat - (qs.getD i 0 + 1) = l[qs.getD i 0].toNat := by omega
  rw [e]
  exact txAt_step ht h1 h2

theorem txAt_first {l : List UInt8} {qs : List Nat} (h : LbSteps l qs) (hn : isName l = true) (hq : 0 < qs.length) : TxAt l (qs.getD 0 0) [] := by
  have h0 : qs.getD 0 0 = 0 := by
    have := h.1
    match qs, hq with
    | q :: r, _ => simpa using this
  rw [h0]
  exact txAt_start (name_some hn).2

theorem txAt_last {l : List UInt8} {qs : List Nat} {done : List UInt8} (h : Places l qs) (ht : TxAt l (qs.getD (cnt l) 0) done) : txS 0 l = done := by
  obtain ⟨_, _, h3, h4⟩ := h
  have hg : l.getD (qs.getD (cnt l) 0) 0 = l[qs.getD (cnt l) 0] := by rw [List.getD_eq_getElem?_getD, List.getElem?_eq_getElem h3]; rfl
  rw [hg] at h4
  exact txAt_end ht h3 h4

theorem place_lt {l : List UInt8} {qs : List Nat} (h : Places l qs) {i : Nat} (hi : i < qs.length) : qs.getD i 0 < l.length := by
  obtain ⟨h1, h2, h3, _⟩ := h
  by_cases e : i + 1 < qs.length
  · exact (h1.2 i e).1
  · have : i = cnt l := by omega
    rw [this]; exact h3

theorem nmS_le : ∀ (l : List UInt8) (s k : Nat), nmS s l = some k → k ≤ l.length := by
  intro l
  induction l with
  | nil => intro s k h; simp [nmS] at h
  | cons c r ih =>
    intro s k h
    match s with
    | 0 =>
      rw [nmS] at h
      split at h
      · split at h
        · simp only [Option.some.injEq] at h; omega
        · simp at h
      · split at h
        · simp at h
        · obtain ⟨j, hj, hk⟩ := Option.map_eq_some_iff.1 h
          have := ih _ _ hj
          simp; omega
    | s + 1 =>
      rw [nmS] at h
      have := ih _ _ h
      simp; omega

theorem cnt_le (l : List UInt8) : cnt l ≤ 255 := by
  unfold cnt
  cases h : nm l with
  | none => simp
  | some k =>
    unfold nm at h
    split at h
    · simp at h
    · have := nmS_le _ _ _ h
      simp; omega

/- A text read loosely. -/

/-- If the text is a name's, the loose reading stands where the strict one does. -/
def J (t o lb : List UInt8) (a : Nat) (R : Option (List UInt8)) : Prop := R = none ∨ (lb = [] ∧ POut t o a R) ∨ (lb ≠ [] ∧ PIn t o lb a R)

theorem J.inn {t o lb : List UInt8} {a : Nat} {R : Option (List UInt8)} (h : J t o lb a R) (ha : a < t.length) : R = none ∨ PIn t o lb a R := by
  rcases h with h | ⟨rfl, h⟩ | ⟨_, h⟩
  · exact .inl h
  · exact .inr (out_in h ha)
  · exact .inr h

theorem J_dot {t o lb : List UInt8} {a : Nat} {R : Option (List UInt8)} (h : J t o lb a R) (ha : a < t.length) (hc : t[a].toNat = 46) :
    J t (o ++ UInt8.ofNat lb.length :: lb) [] (a + 1) R ∧ (255 < lb.length → R = none) := by
  rcases h.inn ha with h | h
  · exact ⟨.inl h, fun _ => h⟩
  · cases hs : sizeB lb.length with
    | true => exact ⟨.inr (.inl ⟨rfl, in_dot h ha hc hs⟩), fun hl => by simp [sizeB] at hs; omega⟩
    | false => exact ⟨.inl (in_dot_no h ha hc hs), fun _ => in_dot_no h ha hc hs⟩

theorem J_plain {t o lb : List UInt8} {a : Nat} {R : Option (List UInt8)} (h : J t o lb a R) (ha : a < t.length) (hc : t[a].toNat ≠ 46) (h92 : t[a].toNat = 92 → t.length ≤ a + 3) :
    J t o (lb ++ [t[a]]) (a + 1) R := by
  rcases h.inn ha with h | h
  · exact .inl h
  · have hd := drop_at t a ha
    cases hs : standsB t[a].toNat with
    | true =>
      have hr : rb (t.drop a) = some (t[a], 1) := by rw [hd]; exact rb_stands hs
      exact .inr (.inr ⟨by simp, in_some h ha hc hr⟩)
    | false =>
      refine .inl (in_none h ha hc ?_)
      rw [hd]
      by_cases e : t[a].toNat = 92
      · exact rb_short hs (by have := h92 e; simp; omega)
      · exact rb_other hs e

/-- What three bytes tell, loosely. -/
def loose (x y z : UInt8) : Int := 100 * ((x.toNat : Int) - 48) + 10 * ((y.toNat : Int) - 48) + (z.toNat : Int) - 48

theorem J_told {t o lb : List UInt8} {a : Nat} {R : Option (List UInt8)} (h : J t o lb a R) (ha : a + 3 < t.length) (h92 : t[a].toNat = 92) (b : UInt8) (hb : (b.toNat : Int) = loose t[a + 1] t[a + 2] t[a + 3] % 256) :
    J t o (lb ++ [b]) (a + 4) R := by
  rcases h.inn (by omega) with h | h
  · exact .inl h
  · have hst : standsB t[a].toNat = false := by rw [h92]; decide
    have hd : t.drop a = t[a] :: t[a + 1] :: t[a + 2] :: t[a + 3] :: t.drop (a + 4) := by
      rw [drop_at t a (by omega), drop_at t (a + 1) (by omega), drop_at t (a + 2) (by omega), drop_at t (a + 3) (by omega)]
    have hr : rb (t.drop a) = if tells t[a + 1] t[a + 2] t[a + 3] then some (UInt8.ofNat (val3 t[a + 1] t[a + 2] t[a + 3]), 4) else none := by rw [hd]; exact rb_tells hst h92
    by_cases ht : tells t[a + 1] t[a + 2] t[a + 3] = true
    · rw [if_pos ht] at hr
      have hv : UInt8.ofNat (val3 t[a + 1] t[a + 2] t[a + 3]) = b := by
        simp only [tells, dig, Bool.and_eq_true, decide_eq_true_eq, Bool.not_eq_true'] at ht
        obtain ⟨⟨⟨⟨hx, hy⟩, hz⟩, hv⟩, _⟩ := ht
        apply UInt8.toNat_inj.1
        rw [toNat_of (by omega)]
        unfold loose at hb
        unfold val3 at hv ⊢
        omega
      rw [hv] at hr
      exact .inr (.inr ⟨by simp, in_some h (by omega) (by omega) hr⟩)
    · rw [if_neg ht] at hr
      exact .inl (in_none h (by omega) (by omega) hr)

theorem PIn_short {t o lb l : List UInt8} {a : Nat} (h : PIn t o lb a (some l)) : o.length < 255 := by
  obtain ⟨f, _, h⟩ := h
  obtain ⟨lab, T, N, _, _, h3, h4, _, h6⟩ := pin_gives f o lb _ l h
  rw [h3] at h6
  simp at h6
  omega

/-- Where the loose reading ends. -/
theorem J_end {t o lb : List UInt8} {a : Nat} {R : Option (List UInt8)} (h : J t o lb a R) (he : t.length ≤ a ∨ 255 < o.length) : R = none ∨ R = some (o ++ [0]) := by
  by_cases ha : t.length ≤ a
  · rcases h with h | ⟨_, h⟩ | ⟨_, h⟩
    · exact .inl h
    · have := out_end h ha
      rw [this, fin]
      split
      · exact .inl rfl
      · exact .inr rfl
    · exact .inl (in_end h ha)
  · have ho : 255 < o.length := by omega
    rcases h.inn (by omega) with h | h
    · exact .inl h
    · match R with
      | none => exact .inl rfl
      | some l => have := PIn_short h; omega

/-- The reading of the whole text, once its name has been written again and held against it. -/
theorem loose_ends {t S : List UInt8} {R : Option (List UInt8)} (hR : R = prs t) (h : R = none ∨ R = some S) : prs t = if isName S = true ∧ tx S = t then some S else none := by
  subst hR
  rcases h with h | h
  · rw [h, if_neg]
    rintro ⟨h1, h2⟩
    rw [← h2, prs_tx h1] at h
    simp at h
  · rw [h, if_pos (tx_prs h)]

theorem J_start (t : List UInt8) (h : t ≠ [46]) : J t [] [] 0 (prs t) := by
  by_cases h0 : t.length = 0 ∨ 1020 < t.length
  · exact .inl (by rw [prs, if_neg h, if_pos h0])
  · exact .inr (.inl ⟨rfl, out_start (by omega) (by omega) h⟩)

end Go.Proofs.Ytbldoplemfjcjaa.Pl
