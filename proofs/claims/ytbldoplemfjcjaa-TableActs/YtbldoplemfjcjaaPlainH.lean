/- The labels of a name, names without their first labels, names folded: plain facts on bytes, with no word of the program. -/
import Derived.Test.YtbldoplemfjcjaaPlainF
import Derived.Test.YtbldoplemfjcjaaPlainG
namespace Go.Proofs.Ytbldoplemfjcjaa.Pl

/-- Labels, each behind its length. -/
def pre (ls : List (List UInt8)) : List UInt8 := ls.flatMap (fun x => UInt8.ofNat x.length :: x)
/-- The name of labels. -/
def enc (ls : List (List UInt8)) : List UInt8 := pre ls ++ [0]
def GoodL (ls : List (List UInt8)) : Prop := ∀ x ∈ ls, 1 ≤ x.length ∧ x.length ≤ 63
/-- Where the label i begins. -/
def pos (ls : List (List UInt8)) (i : Nat) : Nat := (pre (ls.take i)).length

theorem pre_nil : pre [] = [] := rfl
theorem pre_cons (x : List UInt8) (ls : List (List UInt8)) : pre (x :: ls) = UInt8.ofNat x.length :: (x ++ pre ls) := by simp [pre]
theorem pre_append (a b : List (List UInt8)) : pre (a ++ b) = pre a ++ pre b := by simp [pre]
theorem enc_cons (x : List UInt8) (ls : List (List UInt8)) : enc (x :: ls) = UInt8.ofNat x.length :: (x ++ enc ls) := by simp [enc, pre_cons]
theorem enc_nil : enc [] = [0] := rfl
theorem GoodL.tail {x : List UInt8} {ls : List (List UInt8)} (h : GoodL (x :: ls)) : GoodL ls := fun y hy => h y (List.mem_cons_of_mem _ hy)
theorem GoodL.head {x : List UInt8} {ls : List (List UInt8)} (h : GoodL (x :: ls)) : 1 ≤ x.length ∧ x.length ≤ 63 := h x List.mem_cons_self
theorem GoodL.drop {ls : List (List UInt8)} (h : GoodL ls) (i : Nat) : GoodL (ls.drop i) := fun y hy => h y (List.mem_of_mem_drop hy)
theorem len_byte {n : Nat} (h : n ≤ 63) : (UInt8.ofNat n).toNat = n := toNat_of (by omega)

theorem enc_nm {ls : List (List UInt8)} (h : GoodL ls) : nmS 0 (enc ls) = some ls.length := by
  induction ls with
  | nil => simp [enc, pre, nmS]
  | cons x ls ih =>
    have hx := h.head
    rw [enc_cons, nmS, len_byte hx.2, if_neg (by omega), if_neg (by omega), nmS_drop, List.drop_left, ih h.tail]
    simp

theorem nm_enc : ∀ (n : Nat) (l : List UInt8) (k : Nat), l.length ≤ n → nmS 0 l = some k → ∃ ls, l = enc ls ∧ GoodL ls ∧ ls.length = k := by
  intro n
  induction n with
  | zero =>
    intro l k hl h
    have : l = [] := List.eq_nil_of_length_eq_zero (by omega)
    subst this
    simp [nmS] at h
  | succ n ih =>
    intro l k hl h
    match l with
    | [] => simp [nmS] at h
    | c :: r =>
      by_cases h0 : c.toNat = 0
      · rw [nmS, if_pos h0] at h
        split at h
        · rename_i hr
          have hr' := List.eq_nil_of_length_eq_zero hr
          subst hr'
          have hc : c = 0 := UInt8.toNat_inj.1 h0
          subst hc
          simp only [Option.some.injEq] at h
          exact ⟨[], rfl, fun x hx => by simp at hx, by simpa using h⟩
        · simp at h
      · obtain ⟨h63, hlen, _⟩ := nmS_label (c := c) (r := r) (by rw [h]; rfl) h0
        rw [nmS, if_neg h0, if_neg (by omega), nmS_drop] at h
        obtain ⟨j, hj, hk⟩ := Option.map_eq_some_iff.1 h
        obtain ⟨ls, e1, e2, e3⟩ := ih (r.drop c.toNat) j (by simp at hl ⊢; omega) hj
        have hx : (r.take c.toNat).length = c.toNat := by simp; omega
        refine ⟨r.take c.toNat :: ls, ?_, ?_, by simp; omega⟩
        · rw [enc_cons, ← e1, List.take_append_drop, hx]
          congr 1
          exact UInt8.toNat_inj.1 (by rw [len_byte h63])
        · intro y hy
          rcases List.mem_cons.1 hy with rfl | hy
          · rw [hx]; omega
          · exact e2 y hy

/-- The labels that a row of bytes begins with. -/
def labsF : Nat → List UInt8 → List (List UInt8)
  | 0, _ => []
  | _ + 1, [] => []
  | f + 1, c :: r => if c.toNat = 0 then [] else r.take c.toNat :: labsF f (r.drop c.toNat)
/-- The labels of a name; of what is no name none. -/
def labs (l : List UInt8) : List (List UInt8) := if isName l then labsF l.length l else []

theorem labsF_enc {ls : List (List UInt8)} (h : GoodL ls) : ∀ f, (enc ls).length ≤ f → labsF f (enc ls) = ls := by
  induction ls with
  | nil =>
    intro f hf
    match f with
    | 0 => simp [enc] at hf
    | f + 1 => simp [enc, pre, labsF]
  | cons x ls ih =>
    intro f hf
    match f with
    | 0 => simp [enc] at hf
    | f + 1 =>
      have hx := h.head
      rw [enc_cons] at hf ⊢
      rw [labsF, len_byte hx.2, if_neg (by omega), List.take_left, List.drop_left, ih h.tail f (by simp at hf ⊢; omega)]

theorem name_enc {ls : List (List UInt8)} (h : GoodL ls) (hl : (enc ls).length ≤ 255) : isName (enc ls) = true ∧ cnt (enc ls) = ls.length ∧ labs (enc ls) = ls := by
  have hn : nm (enc ls) = some ls.length := by rw [nm_short hl, enc_nm h]
  have h1 : isName (enc ls) = true := by unfold isName; rw [hn]; rfl
  refine ⟨h1, by unfold cnt; rw [hn]; rfl, ?_⟩
  unfold labs
  rw [if_pos h1]
  exact labsF_enc h _ (Nat.le_refl _)

theorem enc_of {l : List UInt8} (h : isName l = true) : l = enc (labs l) ∧ GoodL (labs l) ∧ cnt l = (labs l).length ∧ l.length ≤ 255 := by
  obtain ⟨h1, h2⟩ := name_some h
  obtain ⟨k, hk⟩ := Option.isSome_iff_exists.1 h2
  obtain ⟨ls, rfl, e2, e3⟩ := nm_enc _ _ _ (Nat.le_refl _) hk
  obtain ⟨g1, g2, g3⟩ := name_enc e2 h1
  rw [g3]
  exact ⟨rfl, e2, g2, h1⟩

theorem labs_none {l : List UInt8} (h : isName l = false) : labs l = [] := by unfold labs; rw [h]; rfl

theorem pos_zero (ls : List (List UInt8)) : pos ls 0 = 0 := by simp [pos, pre]
theorem pos_succ (ls : List (List UInt8)) (i : Nat) (h : i < ls.length) : pos ls (i + 1) = pos ls i + 1 + ls[i].length := by
  unfold pos
  rw [List.take_succ_eq_append_getElem h, pre_append]
  simp [pre]
  omega
theorem enc_split (ls : List (List UInt8)) (i : Nat) : enc ls = pre (ls.take i) ++ enc (ls.drop i) := by
  unfold enc
  rw [← List.append_assoc, ← pre_append, List.take_append_drop]
/-- A name without its first labels. -/
theorem enc_drop (ls : List (List UInt8)) (i : Nat) : (enc ls).drop (pos ls i) = enc (ls.drop i) := by
  rw [enc_split ls i]; unfold pos; rw [List.drop_left]
theorem pos_lt (ls : List (List UInt8)) (i : Nat) : pos ls i < (enc ls).length := by
  rw [enc_split ls i]; unfold pos; simp [enc]
theorem pos_at (ls : List (List UInt8)) (i : Nat) (h : i < ls.length) : (enc ls)[pos ls i]'(pos_lt ls i) = UInt8.ofNat ls[i].length := by
  have h1 := enc_drop ls i
  rw [List.drop_eq_getElem_cons (pos_lt ls i), List.drop_eq_getElem_cons h, enc_cons] at h1
  exact (List.cons.inj h1).1
theorem pos_end (ls : List (List UInt8)) (i : Nat) (h : ls.length ≤ i) : (enc ls)[pos ls i]'(pos_lt ls i) = 0 := by
  have h1 := enc_drop ls i
  rw [List.drop_eq_getElem_cons (pos_lt ls i), List.drop_of_length_le h, enc_nil] at h1
  exact (List.cons.inj h1).1
theorem pos_last (ls : List (List UInt8)) : pos ls ls.length + 1 = (enc ls).length := by simp [pos, enc]
/-- The bytes between two places. -/
theorem pos_label (ls : List (List UInt8)) (i : Nat) (h : i < ls.length) : ((enc ls).drop (pos ls i + 1)).take (pos ls (i + 1) - (pos ls i + 1)) = ls[i] := by
  have h1 := enc_drop ls i
  rw [List.drop_eq_getElem_cons h, enc_cons] at h1
  rw [← List.drop_drop, h1, pos_succ ls i h, List.drop_succ_cons, List.drop_zero, show pos ls i + 1 + ls[i].length - (pos ls i + 1) = ls[i].length from by omega, List.take_left]

/-- The places that a walk over the labels finds. -/
theorem places_pos {l : List UInt8} {qs : List Nat} (hn : isName l = true) (h : Places l qs) : qs.length = (labs l).length + 1 ∧ ∀ i, i ≤ (labs l).length → qs.getD i 0 = pos (labs l) i := by
  obtain ⟨e1, e2, e3, e4⟩ := enc_of hn
  refine ⟨by rw [h.2.1, e3], fun i => ?_⟩
  induction i with
  | zero =>
    intro _
    have h0 := h.1.1
    rw [pos_zero]
    have hq : 0 < qs.length := by rw [h.2.1]; omega
    match qs, hq with
    | q :: r, _ => simpa using h0
  | succ i ih =>
    intro hi
    have hp := ih (by omega)
    obtain ⟨h1, h2, h3⟩ := h.1.2 i (by rw [h.2.1, e3]; omega)
    rw [h3, hp, pos_succ _ i (by omega)]
    congr 1
    have hl : pos (labs l) i < l.length := by rw [← hp]; exact h1
    have hg : l.getD (pos (labs l) i) 0 = UInt8.ofNat (labs l)[i].length := by
      rw [← pos_at (labs l) i (by omega)]
      rw [List.getD_eq_getElem?_getD, List.getElem?_eq_getElem hl]
      simp only [Option.getD_some]
      congr 1
    rw [hg, len_byte (e2 _ (List.getElem_mem _)).2]

/- Folding. -/

/-- A great letter made small. -/
def fb (b : UInt8) : UInt8 := if 65 ≤ b.toNat ∧ b.toNat ≤ 90 then UInt8.ofNat (b.toNat + 32) else b
def foldL (l : List UInt8) : List UInt8 := l.map fb

theorem fb_nat (b : UInt8) : (fb b).toNat = if 65 ≤ b.toNat ∧ b.toNat ≤ 90 then b.toNat + 32 else b.toNat := by
  unfold fb; split
  · rw [toNat_of (by omega)]
  · rfl
theorem fb_small {b : UInt8} (h : b.toNat ≤ 63) : fb b = b := by unfold fb; rw [if_neg (by omega)]
theorem fb_twice (b : UInt8) : fb (fb b) = fb b := by
  have h := fb_nat b
  apply UInt8.toNat_inj.1
  rw [fb_nat (fb b)]
  split at h <;> split <;> omega
theorem fold_twice (l : List UInt8) : foldL (foldL l) = foldL l := by unfold foldL; simp [fb_twice]
theorem fold_len (l : List UInt8) : (foldL l).length = l.length := by simp [foldL]

theorem nmS_fold (l : List UInt8) : ∀ k, nmS k (foldL l) = nmS k l := by
  induction l with
  | nil => intro k; rfl
  | cons c r ih =>
    intro k
    have hc := fb_nat c
    show nmS k (fb c :: foldL r) = nmS k (c :: r)
    match k with
    | k + 1 => rw [nmS, nmS]; exact ih k
    | 0 =>
      rw [nmS, nmS, fold_len]
      by_cases h0 : c.toNat = 0
      · rw [if_pos (by split at hc <;> omega), if_pos h0]
      · rw [if_neg (by split at hc <;> omega), if_neg h0]
        by_cases h6 : 63 < c.toNat
        · rw [if_pos (by split at hc <;> omega), if_pos h6]
        · rw [if_neg (by split at hc <;> omega), if_neg h6, fb_small (by omega), ih]

theorem name_fold (l : List UInt8) : isName (foldL l) = isName l := by unfold isName nm; rw [nmS_fold, fold_len]
theorem fold_pre {ls : List (List UInt8)} (h : GoodL ls) : foldL (pre ls) = pre (ls.map foldL) := by
  induction ls with
  | nil => rfl
  | cons x ls ih =>
    have hx := h.head
    have := ih h.tail
    rw [List.map_cons, pre_cons, pre_cons, fold_len, ← this]
    unfold foldL
    rw [List.map_cons, List.map_append, fb_small (by rw [len_byte hx.2]; omega)]
theorem fold_enc {ls : List (List UInt8)} (h : GoodL ls) : foldL (enc ls) = enc (ls.map foldL) := by
  unfold enc
  rw [← fold_pre h]
  unfold foldL
  rw [List.map_append]
  rfl
theorem good_fold {ls : List (List UInt8)} (h : GoodL ls) : GoodL (ls.map foldL) := by
  intro x hx
  obtain ⟨y, hy, rfl⟩ := List.mem_map.1 hx
  rw [fold_len]; exact h y hy

/-- The labels of a name folded, the last one first. -/
def fl (l : List UInt8) : List (List UInt8) := ((labs l).map foldL).reverse

theorem labs_fold (l : List UInt8) : labs (foldL l) = (labs l).map foldL := by
  cases h : isName l with
  | false => rw [labs_none h, labs_none (by rw [name_fold]; exact h)]; rfl
  | true =>
    obtain ⟨e1, e2, e3, e4⟩ := enc_of h
    have e5 : foldL l = enc ((labs l).map foldL) := by rw [← fold_enc e2, ← e1]
    have := name_enc (good_fold e2) (by rw [← e5, fold_len]; exact e4)
    rw [e5, this.2.2]
theorem fl_fold (l : List UInt8) : fl (foldL l) = fl l := by
  unfold fl; rw [labs_fold]; simp [fold_twice]
theorem fl_len (l : List UInt8) : (fl l).length = (labs l).length := by simp [fl]

theorem enc_inj {a b : List (List UInt8)} (ha : GoodL a) (hb : GoodL b) (h : enc a = enc b) : a = b := by
  rw [← labsF_enc ha _ (Nat.le_refl _), h]; exact labsF_enc hb _ (Nat.le_refl _)

theorem fold_inj {a b : List UInt8} (ha : isName a = true) (hb : isName b = true) : foldL a = foldL b ↔ fl a = fl b := by
  obtain ⟨a1, a2, _, _⟩ := enc_of ha
  obtain ⟨b1, b2, _, _⟩ := enc_of hb
  have ea : foldL a = enc ((labs a).map foldL) := by rw [← fold_enc a2, ← a1]
  have eb : foldL b = enc ((labs b).map foldL) := by rw [← fold_enc b2, ← b1]
  rw [ea, eb]
  unfold fl
  rw [List.reverse_inj]
  exact ⟨enc_inj (good_fold a2) (good_fold b2), fun h => by rw [h]⟩

/-- The order of bytes folded. -/
def ord (a b : List UInt8) : Int := lexG cB (foldL a) (foldL b)
/-- The order of names. -/
def cmpN (a b : List UInt8) : Int := lexG (lexG cB) (fl a) (fl b)
/-- Is a the same as b? -/
def sameB (a b : List UInt8) : Bool := isName a && isName b && decide (foldL a = foldL b)
/-- A name's last k labels. -/
def lastN (l : List UInt8) (k : Nat) : List UInt8 := enc ((labs l).drop ((labs l).length - k))
/-- Is a above b? -/
def aboveB (a b : List UInt8) : Bool := isName a && isName b && decide ((labs a).length ≤ (labs b).length) && decide (foldL a = foldL (lastN b (labs a).length))

theorem ord_ord : IsOrd (lexG cB) := lexG_ord cB_ord
theorem cmp_ord : IsOrd (lexG (lexG cB)) := lexG_ord ord_ord
theorem ord_zero (a b : List UInt8) : ord a b = 0 ↔ foldL a = foldL b := ord_ord.zero _ _
theorem cmp_zero (a b : List UInt8) : cmpN a b = 0 ↔ fl a = fl b := cmp_ord.zero _ _
theorem same_iff {a b : List UInt8} : sameB a b = true ↔ isName a = true ∧ isName b = true ∧ fl a = fl b := by
  unfold sameB
  constructor
  · intro h
    simp at h
    exact ⟨h.1.1, h.1.2, (fold_inj h.1.1 h.1.2).1 h.2⟩
  · intro ⟨h1, h2, h3⟩
    simp [h1, h2]
    exact (fold_inj h1 h2).2 h3

theorem pos_le (ls : List (List UInt8)) (i : Nat) : (enc (ls.drop i)).length ≤ (enc ls).length := by
  rw [← enc_drop]; simp

theorem last_name {l : List UInt8} (h : isName l = true) (k : Nat) (hk : k ≤ (labs l).length) : isName (lastN l k) = true ∧ labs (lastN l k) = (labs l).drop ((labs l).length - k) ∧ cnt (lastN l k) = k := by
  obtain ⟨e1, e2, e3, e4⟩ := enc_of h
  have := name_enc (e2.drop ((labs l).length - k)) (by
    have := pos_le (labs l) ((labs l).length - k)
    rw [← e1] at this
    omega)
  refine ⟨this.1, this.2.2, ?_⟩
  unfold lastN
  rw [this.2.1]
  simp
  omega

theorem fl_last {l : List UInt8} (h : isName l = true) (k : Nat) (hk : k ≤ (labs l).length) : fl (lastN l k) = (fl l).take k := by
  unfold fl
  rw [(last_name h k hk).2.1, List.map_drop, List.reverse_drop]
  simp
  congr 1
  omega

theorem above_iff {a b : List UInt8} : aboveB a b = true ↔ isName a = true ∧ isName b = true ∧ fl a <+: fl b := by
  unfold aboveB
  constructor
  · intro h
    simp at h
    obtain ⟨⟨⟨h1, h2⟩, h3⟩, h4⟩ := h
    refine ⟨h1, h2, ?_⟩
    have h5 := (fold_inj h1 (last_name h2 _ h3).1).1 h4
    rw [fl_last h2 _ h3] at h5
    rw [h5]
    exact List.take_prefix _ _
  · intro ⟨h1, h2, h3⟩
    have h4 : (labs a).length ≤ (labs b).length := by rw [← fl_len, ← fl_len]; exact h3.length_le
    simp [h1, h2, h4]
    refine (fold_inj h1 (last_name h2 _ h4).1).2 ?_
    rw [fl_last h2 _ h4]
    obtain ⟨t, ht⟩ := h3
    rw [← ht, ← fl_len, List.take_left]

end Go.Proofs.Ytbldoplemfjcjaa.Pl
