/- Names and their texts go there and back: plain facts on bytes, with no word of the program. -/
import Derived.Test.YtbldoplemfjcjaaPlainB
namespace Go.Proofs.Ytbldoplemfjcjaa.Pl

theorem esc_size (b : UInt8) : 1 ≤ (esc b).length ∧ (esc b).length ≤ 4 := by unfold esc; split <;> simp

theorem toNat_of {n : Nat} (h : n < 256) : (UInt8.ofNat n).toNat = n := by simp; omega

/-- What stands at a byte's text's head is no dot. -/
theorem esc_head (b : UInt8) : ∃ c r, esc b = c :: r ∧ c.toNat ≠ 46 := by
  unfold esc
  split
  · rename_i h
    refine ⟨b, [], rfl, ?_⟩
    simp [standsB] at h
    omega
  · exact ⟨92, _, rfl, by decide⟩

theorem rb_of_esc (b : UInt8) (X : List UInt8) : rb (esc b ++ X) = some (b, (esc b).length) := by
  have hb := b.toNat_lt
  cases h : standsB b.toNat with
  | true => simp only [esc, h, if_true]; exact rb_stands h
  | false =>
    have e : esc b = [92, UInt8.ofNat (48 + b.toNat / 100), UInt8.ofNat (48 + b.toNat / 10 % 10), UInt8.ofNat (48 + b.toNat % 10)] := by unfold esc; rw [if_neg (by simp [h])]
    rw [e]
    have ex := toNat_of (n := 48 + b.toNat / 100) (by omega)
    have ey := toNat_of (n := 48 + b.toNat / 10 % 10) (by omega)
    have ez := toNat_of (n := 48 + b.toNat % 10) (by omega)
    have hv : val3 (UInt8.ofNat (48 + b.toNat / 100)) (UInt8.ofNat (48 + b.toNat / 10 % 10)) (UInt8.ofNat (48 + b.toNat % 10)) = b.toNat := by
      unfold val3; rw [ex, ey, ez]; omega
    show rb (92 :: _ :: _ :: _ :: X) = _
    rw [rb_tells (by decide) (by decide), if_pos, hv]
    · simp
    · unfold tells dig
      rw [hv, ex, ey, ez, h]
      simp
      omega

theorem esc_of_rb {t : List UInt8} {b : UInt8} {k : Nat} (h : rb t = some (b, k)) : t = esc b ++ t.drop k := by
  match t with
  | [] => simp [rb] at h
  | c :: r =>
    cases hs : standsB c.toNat with
    | true =>
      rw [rb_stands hs] at h
      simp only [Option.some.injEq, Prod.mk.injEq] at h
      obtain ⟨rfl, rfl⟩ := h
      unfold esc
      rw [if_pos hs]; rfl
    | false =>
      by_cases h92 : c.toNat = 92
      · match r with
        | [] => rw [rb_short hs (by simp)] at h; simp at h
        | [_] => rw [rb_short hs (by simp)] at h; simp at h
        | [_, _] => rw [rb_short hs (by simp)] at h; simp at h
        | x :: y :: z :: r =>
          rw [rb_tells hs h92] at h
          split at h
          · rename_i ht
            simp only [Option.some.injEq, Prod.mk.injEq] at h
            obtain ⟨rfl, rfl⟩ := h
            simp only [tells, dig, Bool.and_eq_true, decide_eq_true_eq, Bool.not_eq_true'] at ht
            obtain ⟨⟨⟨⟨hx, hy⟩, hz⟩, hv⟩, hst⟩ := ht
            have ev := toNat_of (n := val3 x y z) (by omega)
            unfold esc
            rw [ev, if_neg (by simp [hst])]
            have e0 : c = 92 := UInt8.toNat_inj.1 (by simpa using h92)
            have e1 : UInt8.ofNat (48 + val3 x y z / 100) = x := UInt8.toNat_inj.1 (by rw [toNat_of (by omega)]; unfold val3; omega)
            have e2 : UInt8.ofNat (48 + val3 x y z / 10 % 10) = y := UInt8.toNat_inj.1 (by rw [toNat_of (by omega)]; unfold val3; omega)
            have e3 : UInt8.ofNat (48 + val3 x y z % 10) = z := UInt8.toNat_inj.1 (by rw [toNat_of (by omega)]; unfold val3; omega)
            rw [e0, e1, e2, e3]; rfl
          · simp at h
      · rw [rb_other hs h92] at h; simp at h

theorem pin_cons (f : Nat) (o lb r : List UInt8) (c : UInt8) : pin (f + 1) o lb (c :: r) =
    if c.toNat = 46 then (if sizeB lb.length then pout f (o ++ UInt8.ofNat lb.length :: lb) r else none)
    else match rb (c :: r) with
      | none => none
      | some (b, k) => pin f o (lb ++ [b]) ((c :: r).drop k) := rfl

theorem pin_label (lab : List UInt8) : ∀ (f : Nat) (o lb T : List UInt8), lab.length + 1 + T.length ≤ f →
    ∃ f', T.length ≤ f' ∧ pin f o lb (lab.flatMap esc ++ 46 :: T) = if sizeB (lb ++ lab).length then pout f' (o ++ UInt8.ofNat (lb ++ lab).length :: (lb ++ lab)) T else none := by
  induction lab with
  | nil =>
    intro f o lb T hf
    obtain ⟨f, rfl⟩ : ∃ g, f = g + 1 := ⟨f - 1, by omega⟩
    · refine ⟨f, by simp at hf; omega, ?_⟩
      show pin (f + 1) o lb (46 :: T) = _
      rw [pin_cons, if_pos (by decide), List.append_nil]
  | cons b lab ih =>
    intro f o lb T hf
    obtain ⟨f, rfl⟩ : ∃ g, f = g + 1 := ⟨f - 1, by omega⟩
    · obtain ⟨f', h1, h2⟩ := ih f o (lb ++ [b]) T (by simp at hf; omega)
      refine ⟨f', h1, ?_⟩
      obtain ⟨c, r, he, hc⟩ := esc_head b
      have hr := rb_of_esc b (lab.flatMap esc ++ 46 :: T)
      have e : (b :: lab).flatMap esc ++ 46 :: T = c :: (r ++ (lab.flatMap esc ++ 46 :: T)) := by
        rw [List.flatMap_cons, he]; simp
      have e2 : esc b ++ (lab.flatMap esc ++ 46 :: T) = c :: (r ++ (lab.flatMap esc ++ 46 :: T)) := by rw [he]; rfl
      rw [e2] at hr
      rw [e, pin_cons, if_neg hc, hr]
      show pin f o (lb ++ [b]) ((c :: (r ++ (lab.flatMap esc ++ 46 :: T))).drop (esc b).length) = _
      rw [← e2, List.drop_left, h2, List.append_assoc]
      rfl

theorem nmS_label {c : UInt8} {r : List UInt8} (h : (nmS 0 (c :: r)).isSome = true) (h0 : c.toNat ≠ 0) :
    c.toNat ≤ 63 ∧ c.toNat < r.length ∧ (nmS 0 (r.drop c.toNat)).isSome = true := by
  rw [nmS, if_neg h0] at h
  split at h
  · simp at h
  · have h2 : (nmS c.toNat r).isSome = true := by simpa using h
    exact ⟨by omega, nmS_cut h2, by rw [← nmS_drop]; exact h2⟩

theorem txS_cons {c : UInt8} {r : List UInt8} (h0 : c.toNat ≠ 0) (hl : c.toNat ≤ r.length) : txS 0 (c :: r) = (r.take c.toNat).flatMap esc ++ 46 :: txS 0 (r.drop c.toNat) := by
  rw [txS, if_neg h0]
  obtain ⟨k, hk⟩ : ∃ k, c.toNat = k + 1 := ⟨c.toNat - 1, by omega⟩
  rw [hk]
  exact txS_label k r (by omega)

theorem flat_long (lab : List UInt8) : lab.length ≤ (lab.flatMap esc).length := by
  induction lab with
  | nil => simp
  | cons b lab ih => have := esc_size b; rw [List.flatMap_cons, List.length_append, List.length_cons]; omega

/-- A name's text is read as the name. -/
theorem pout_text : ∀ (n : Nat) (l : List UInt8), l.length ≤ n → (nmS 0 l).isSome = true → ∀ (f : Nat) (o : List UInt8), o.length + l.length ≤ 255 → (txS 0 l).length ≤ f → pout f o (txS 0 l) = some (o ++ l) := by
  intro n
  induction n with
  | zero =>
    intro l hl h
    have : l = [] := List.eq_nil_of_length_eq_zero (by omega)
    subst this
    simp [nmS] at h
  | succ n ih =>
    intro l hl h f o ho hf
    match l with
    | [] => simp [nmS] at h
    | c :: r =>
      by_cases h0 : c.toNat = 0
      · rw [nmS, if_pos h0] at h
        have hr : r = [] := by
          by_cases e : r.length = 0
          · exact List.eq_nil_of_length_eq_zero e
          · simp [e] at h
        subst hr
        have ec : c = 0 := UInt8.toNat_inj.1 (by simpa using h0)
        subst ec
        simp at ho
        show fin o = _
        rw [fin, if_neg (by omega)]
      · obtain ⟨h63, hlt, hn⟩ := nmS_label h h0
        rw [txS_cons h0 (by omega)] at hf ⊢
        have hlen : (r.take c.toNat).length = c.toNat := by simp; omega
        have hfl := flat_long (r.take c.toNat)
        simp only [List.length_append, List.length_cons] at hf
        rw [pout, if_neg (by simp)]
        obtain ⟨f', h1, h2⟩ := pin_label (r.take c.toNat) f o [] (txS 0 (r.drop c.toNat)) (by omega)
        rw [h2]
        simp only [List.nil_append]
        rw [hlen, if_pos (by simp [sizeB]; omega)]
        have ec : UInt8.ofNat c.toNat = c := by simp
        rw [ec]
        have hl' : (r.drop c.toNat).length ≤ n := by simp at hl ⊢; omega
        rw [ih _ hl' hn f' _ (by simp at ho ⊢; omega) h1]
        simp

theorem txS_short : ∀ (l : List UInt8) (k : Nat), (txS k l).length ≤ 4 * l.length + (if k = 0 then 0 else 1) := by
  intro l
  induction l with
  | nil => intro k; simp [txS]
  | cons b r ih =>
    intro k
    have he := esc_size b
    match k with
    | 0 =>
      rw [txS]
      split
      · simp
      · have := ih b.toNat
        split at this <;> simp <;> omega
    | 1 => have := ih 0; simp [txS] at this ⊢; omega
    | k + 2 => have := ih (k + 1); simp [txS] at this ⊢; omega

theorem name_some {l : List UInt8} (h : isName l = true) : l.length ≤ 255 ∧ (nmS 0 l).isSome = true := by
  unfold isName nm at h
  split at h
  · simp at h
  · exact ⟨by omega, h⟩

theorem name_root {l : List UInt8} (h : isName l = true) (h1 : l.length = 1) : l = [0] := by
  match l, h1 with
  | [c], _ =>
    simp only [isName, nm, nmS] at h
    by_cases hc : c.toNat = 0
    · rw [show c = 0 from UInt8.toNat_inj.1 (by simpa using hc)]
    · simp [hc] at h

theorem name_long {l : List UInt8} (h : isName l = true) (h1 : l.length ≠ 1) : ∃ c r, l = c :: r ∧ c.toNat ≠ 0 := by
  obtain ⟨_, hs⟩ := name_some h
  match l with
  | [] => simp [nmS] at hs
  | c :: r =>
    refine ⟨c, r, rfl, fun h0 => h1 ?_⟩
    rw [nmS, if_pos h0] at hs
    by_cases e : r.length = 0
    · simp [e]
    · simp [e] at hs

/-- There and back: a name. -/
theorem prs_tx {l : List UInt8} (h : isName l = true) : prs (tx l) = some l := by
  obtain ⟨h255, hs⟩ := name_some h
  by_cases h1 : l.length = 1
  · rw [name_root h h1]; decide
  · obtain ⟨c, r, rfl, h0⟩ := name_long h h1
    have ht : tx (c :: r) = txS 0 (c :: r) := by unfold tx; rw [if_neg h1]
    obtain ⟨h63, hlt, hn⟩ := nmS_label hs h0
    have hc := txS_cons h0 (Nat.le_of_lt hlt)
    have hshort := txS_short (c :: r) 0
    have hp := pout_text _ (c :: r) (Nat.le_refl _) hs (txS 0 (c :: r)).length [] (by simpa using h255) (Nat.le_refl _)
    rw [ht, prs]
    have hne : txS 0 (c :: r) ≠ [46] := by
      rw [hc]
      intro e
      have := congrArg List.length e
      have hfl := flat_long (r.take c.toNat)
      simp at this hfl
      omega
    have h0l : (txS 0 (c :: r)).length ≠ 0 := by rw [hc]; simp
    rw [if_neg hne, if_neg (by simp only [if_true] at hshort; omega)]
    rw [pout, if_neg h0l] at hp
    exact hp

/-- What is read within a label is a label's rest, a dot, and a name's text. -/
theorem pin_gives : ∀ (f : Nat) (o lb t l : List UInt8), pin f o lb t = some l →
    ∃ lab T N : List UInt8, t = lab.flatMap esc ++ 46 :: T ∧ sizeB (lb ++ lab).length = true ∧ l = o ++ UInt8.ofNat (lb ++ lab).length :: (lb ++ lab ++ N) ∧ (nmS 0 N).isSome = true ∧ txS 0 N = T ∧ l.length ≤ 255 := by
  intro f
  induction f with
  | zero => intro o lb t l h; simp [pin] at h
  | succ f ih =>
    intro o lb t l h
    match t with
    | [] => simp [pin] at h
    | c :: r =>
      rw [pin_cons] at h
      by_cases hc : c.toNat = 46
      · rw [if_pos hc] at h
        have ec : c = 46 := UInt8.toNat_inj.1 (by simpa using hc)
        subst ec
        cases hs : sizeB lb.length with
        | false => simp [hs] at h
        | true =>
          rw [hs, if_pos rfl, pout] at h
          by_cases hr : r.length = 0
          · rw [if_pos hr, fin] at h
            split at h
            · simp at h
            · rename_i hsz
              have er : r = [] := List.eq_nil_of_length_eq_zero hr
              subst er
              simp only [Option.some.injEq] at h
              subst h
              refine ⟨[], [], [0], rfl, by simpa using hs, by simp, by decide, by decide, ?_⟩
              simp at hsz ⊢
              omega
          · rw [if_neg hr] at h
            obtain ⟨lab, T, N, h1, h2, h3, h4, h5, h6⟩ := ih _ _ _ _ h
            simp only [List.nil_append] at h2 h3
            have hl : 1 ≤ lab.length ∧ lab.length ≤ 63 := by simp [sizeB] at h2; omega
            have en := toNat_of (n := lab.length) (by omega)
            refine ⟨[], r, UInt8.ofNat lab.length :: (lab ++ N), rfl, by simpa using hs, by rw [h3]; simp, ?_, ?_, h6⟩
            · rw [nmS, en, if_neg (by omega), if_neg (by omega), nmS_drop, List.drop_left]
              simpa using h4
            · rw [txS_cons (by rw [en]; omega) (by rw [en]; simp), en, List.drop_left, List.take_left, h5, ← h1]
      · rw [if_neg hc] at h
        cases hr : rb (c :: r) with
        | none => rw [hr] at h; simp at h
        | some bk =>
          obtain ⟨b, k⟩ := bk
          rw [hr] at h
          obtain ⟨lab, T, N, h1, h2, h3, h4, h5, h6⟩ := ih _ _ _ _ h
          refine ⟨b :: lab, T, N, ?_, by simpa using h2, by rw [h3]; simp, h4, h5, h6⟩
          have := esc_of_rb hr
          rw [this, h1]
          simp

/-- There and back: a text. -/
theorem tx_prs {t l : List UInt8} (h : prs t = some l) : isName l = true ∧ tx l = t := by
  rw [prs] at h
  split at h
  · rename_i e
    simp only [Option.some.injEq] at h
    subst h
    subst e
    exact ⟨by decide, by decide⟩
  · split at h
    · simp at h
    · obtain ⟨lab, T, N, h1, h2, h3, h4, h5, h6⟩ := pin_gives _ _ _ _ _ h
      simp only [List.nil_append] at h2 h3
      have hl : 1 ≤ lab.length ∧ lab.length ≤ 63 := by simp [sizeB] at h2; omega
      have en := toNat_of (n := lab.length) (by omega)
      have hN : 0 < N.length := nmS_cut h4
      subst h3
      have hs : (nmS 0 (UInt8.ofNat lab.length :: (lab ++ N))).isSome = true := by
        rw [nmS, en, if_neg (by omega), if_neg (by omega), nmS_drop, List.drop_left]
        simpa using h4
      refine ⟨by unfold isName nm; rw [if_neg (by omega)]; exact hs, ?_⟩
      unfold tx
      rw [if_neg (by simp only [List.length_cons, List.length_append]; omega), txS_cons (by rw [en]; omega) (by rw [en]; simp), en, List.drop_left, List.take_left, h5, ← h1]

end Go.Proofs.Ytbldoplemfjcjaa.Pl
