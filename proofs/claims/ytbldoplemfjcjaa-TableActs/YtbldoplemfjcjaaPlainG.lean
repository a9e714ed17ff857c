/- Orders: rows compared place by place, a beginning ahead; plain facts, with no word of the program. -/
namespace Go.Proofs.Ytbldoplemfjcjaa.Pl

/-- What an order is: minus one, nought or one; turned round it changes its sign; it does not turn back; nought tells equals alone. -/
structure IsOrd {α : Type} (c : α → α → Int) : Prop where
  three : ∀ x y, c x y = -1 ∨ c x y = 0 ∨ c x y = 1
  anti : ∀ x y, c y x = - c x y
  trans : ∀ x y z, c x y ≤ 0 → c y z ≤ 0 → c x z ≤ 0
  zero : ∀ x y, c x y = 0 ↔ x = y

/-- Rows compared place by place, a beginning ahead. -/
def lexG {α : Type} (c : α → α → Int) : List α → List α → Int
  | [], [] => 0
  | [], _ :: _ => -1
  | _ :: _, [] => 1
  | x :: a, y :: b => if c x y = 0 then lexG c a b else c x y

/-- Numbers compared. -/
def sgn (x y : Int) : Int := if x < y then -1 else if y < x then 1 else 0
/-- Bytes compared. -/
def cB (x y : UInt8) : Int := sgn x.toNat y.toNat

theorem cB_ord : IsOrd cB where
  three x y := by
    unfold cB sgn
    split
    · simp
    · split <;> simp
  anti x y := by unfold cB sgn; split <;> split <;> (try split) <;> omega
  trans x y z := by unfold cB sgn; split <;> split <;> (try split) <;> (try split) <;> omega
  zero x y := by
    constructor
    · intro h
      unfold cB sgn at h
      have : x.toNat = y.toNat := by
        split at h
        · omega
        · split at h <;> omega
      exact UInt8.toNat_inj.1 this
    · rintro rfl; simp [cB, sgn]

theorem lexG_self {α : Type} {c : α → α → Int} (h : IsOrd c) (a : List α) : lexG c a a = 0 := by
  induction a with
  | nil => rfl
  | cons x a ih => rw [lexG, if_pos ((h.zero x x).2 rfl)]; exact ih

theorem lexG_ord {α : Type} {c : α → α → Int} (h : IsOrd c) : IsOrd (lexG c) where
  three a b := by
    induction a generalizing b with
    | nil => cases b <;> simp [lexG]
    | cons x a ih =>
      cases b with
      | nil => simp [lexG]
      | cons y b =>
        rw [lexG]
        split
        · exact ih b
        · exact h.three x y
  anti a b := by
    induction a generalizing b with
    | nil => cases b <;> simp [lexG]
    | cons x a ih =>
      cases b with
      | nil => simp [lexG]
      | cons y b =>
        rw [lexG, lexG, h.anti x y]
        by_cases e : c x y = 0
        · rw [if_pos e, if_pos (by omega)]; exact ih b
        · rw [if_neg e, if_neg (by omega)]
  trans a b d := by
    induction a generalizing b d with
    | nil => cases b <;> cases d <;> simp [lexG]
    | cons x a ih =>
      cases b with
      | nil => simp [lexG]
      | cons y b =>
        cases d with
        | nil =>
          intro _ h2; simp [lexG] at h2
        | cons z d =>
          rw [lexG, lexG, lexG]
          have a1 := h.anti x y
          have a2 := h.anti y z
          have a3 := h.anti x z
          have t1 := h.trans x y z
          by_cases e1 : c x y = 0
          · have := (h.zero x y).1 e1
            subst this
            rw [if_pos e1]
            by_cases e2 : c x z = 0
            · rw [if_pos e2, if_pos e2]; exact ih b d
            · rw [if_neg e2, if_neg e2]; intros; assumption
          · rw [if_neg e1]
            by_cases e2 : c y z = 0
            · have := (h.zero y z).1 e2
              subst this
              rw [if_neg e1]; intros; assumption
            · rw [if_neg e2]
              intro u v
              have e3 : c x z ≠ 0 := by
                intro e3
                have := (h.zero x z).1 e3
                subst this
                omega
              rw [if_neg e3]
              exact t1 u v
  zero a b := by
    induction a generalizing b with
    | nil => cases b <;> simp [lexG]
    | cons x a ih =>
      cases b with
      | nil => simp [lexG]
      | cons y b =>
        rw [lexG]
        by_cases e : c x y = 0
        · have := (h.zero x y).1 e
          subst this
          rw [if_pos e, ih b]; simp
        · rw [if_neg e]
          constructor
          · intro k; exact absurd k e
          · intro k
            simp at k
            exact absurd ((h.zero x y).2 k.1) e

/-- A longer row comes behind its beginning. -/
theorem lexG_more {α : Type} {c : α → α → Int} (h : IsOrd c) (a b : List α) (hb : b ≠ []) : lexG c a (a ++ b) = -1 := by
  induction a with
  | nil => cases b with
    | nil => exact absurd rfl hb
    | cons y b => rfl
  | cons x a ih => rw [List.cons_append, lexG, if_pos ((h.zero x x).2 rfl)]; exact ih

/-- What lies between a beginning and a row that begins with it begins with it too. -/
theorem lexG_between {α : Type} {c : α → α → Int} (h : IsOrd c) : ∀ (a m j : List α), a <+: m → lexG c a j ≤ 0 → lexG c j m ≤ 0 → a <+: j := by
  intro a
  induction a with
  | nil => intro m j _ _ _; exact List.nil_prefix
  | cons x a ih =>
    intro m j hp h1 h2
    obtain ⟨t, rfl⟩ := hp
    cases j with
    | nil => simp [lexG] at h1
    | cons y j =>
      rw [List.cons_append] at h2
      rw [lexG] at h1 h2
      have a1 := h.anti x y
      by_cases e : c x y = 0
      · have := (h.zero x y).1 e
        subst this
        rw [if_pos e] at h1 h2
        have := ih (a ++ t) j (List.prefix_append _ _) h1 h2
        exact List.prefix_cons_inj x |>.2 this
      · rw [if_neg e] at h1
        rw [if_neg (by omega)] at h2
        omega

/-- One place further: at the place k both rows are alike so far. -/
theorem lexG_drop {α : Type} {c : α → α → Int} (_ : IsOrd c) (a b : List α) (k : Nat) (ha : k < a.length) (hb : k < b.length) :
    lexG c (a.drop k) (b.drop k) = if c a[k] b[k] = 0 then lexG c (a.drop (k + 1)) (b.drop (k + 1)) else c a[k] b[k] := by
  rw [List.drop_eq_getElem_cons ha, List.drop_eq_getElem_cons hb, lexG]

/-- One row is at its end: the lengths decide. -/
theorem lexG_end {α : Type} {c : α → α → Int} (a b : List α) (k : Nat) (h : k = a.length ∨ k = b.length) (ha : k ≤ a.length) (hb : k ≤ b.length) :
    lexG c (a.drop k) (b.drop k) = sgn a.length b.length := by
  unfold sgn
  rcases Nat.lt_trichotomy a.length b.length with g | g | g
  · rw [if_pos (by omega)]
    have : k = a.length := by omega
    subst this
    rw [List.drop_of_length_le (Nat.le_refl _), List.drop_eq_getElem_cons g]; rfl
  · rw [if_neg (by omega), if_neg (by omega)]
    have : k = a.length := by omega
    subst this
    rw [List.drop_of_length_le (Nat.le_refl _), List.drop_of_length_le (by omega)]; rfl
  · rw [if_neg (by omega), if_pos (by omega)]
    have : k = b.length := by omega
    subst this
    rw [List.drop_of_length_le (Nat.le_refl b.length), List.drop_eq_getElem_cons g]; rfl

end Go.Proofs.Ytbldoplemfjcjaa.Pl
