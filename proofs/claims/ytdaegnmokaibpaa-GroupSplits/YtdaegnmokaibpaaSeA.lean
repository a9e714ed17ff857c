/- Sets of records, plainly: texts that rise, records of one name and type gathered. -/
import Derived.Test.YtdaegnmokaibpaaGnB
import Derived.Test.YtdaegnmokaibpaaFoA
namespace Go.Proofs.Ytdaegnmokaibpaa
open Go.RowKit
open Pl

/-- Which text is less. -/
def ltB (a b : ByteArray) : Bool := Op.bytesLess a.toList b.toList
theorem bl_irr : ∀ x : List UInt8, Op.bytesLess x x = false := by
  intro x
  induction x with
  | nil => rfl
  | cons a x ih => rw [Op.bytesLess, ih]; simp
theorem bl_trans : ∀ x y z : List UInt8, Op.bytesLess x y = true → Op.bytesLess y z = true → Op.bytesLess x z = true := by
  intro x
  induction x with
  | nil =>
    intro y z h1 h2
    cases z with
    | nil => simp [Op.bytesLess] at h2
    | cons c z => rfl
  | cons a x ih =>
    intro y z h1 h2
    cases y with
    | nil => simp [Op.bytesLess] at h1
    | cons b y =>
      cases z with
      | nil => simp [Op.bytesLess] at h2
      | cons c z =>
        simp only [Op.bytesLess, Bool.or_eq_true, decide_eq_true_eq, Bool.and_eq_true, beq_iff_eq] at h1 h2 ⊢
        rcases h1 with h1 | ⟨rfl, h1⟩
        · rcases h2 with h2 | ⟨rfl, h2⟩
          · left; rw [UInt8.lt_iff_toNat_lt] at *; omega
          · left; exact h1
        · rcases h2 with h2 | ⟨rfl, h2⟩
          · left; exact h2
          · right; exact ⟨rfl, ih _ _ h1 h2⟩
theorem bl_tri : ∀ x y : List UInt8, Op.bytesLess x y = false → x ≠ y → Op.bytesLess y x = true := by
  intro x
  induction x with
  | nil =>
    intro y h1 h2
    cases y with
    | nil => exact absurd rfl h2
    | cons b y => simp [Op.bytesLess] at h1
  | cons a x ih =>
    intro y h1 h2
    cases y with
    | nil => rfl
    | cons b y =>
      simp only [Op.bytesLess, Bool.or_eq_false_iff, decide_eq_false_iff_not, Bool.and_eq_false_iff, beq_eq_false_iff_ne] at h1
      simp only [Op.bytesLess, Bool.or_eq_true, decide_eq_true_eq, Bool.and_eq_true, beq_iff_eq]
      obtain ⟨h3, h4⟩ := h1
      by_cases e : a = b
      · subst e
        right
        refine ⟨rfl, ih _ ?_ (fun e => h2 (by rw [e]))⟩
        rcases h4 with h4 | h4
        · exact absurd rfl h4
        · exact h4
      · left
        rw [UInt8.lt_iff_toNat_lt] at *
        have : a.toNat ≠ b.toNat := fun h => e (UInt8.toNat_inj.1 h)
        omega
theorem byte_ext {a b : ByteArray} (h : a.toList = b.toList) : a = b := by
  rw [ByteArray.toList_eq, ByteArray.toList_eq] at h
  cases a; cases b
  simp at h
  rw [h]
theorem ltB_irr (a : ByteArray) : ltB a a = false := bl_irr _
theorem ltB_trans {a b c : ByteArray} (h : ltB a b = true) (k : ltB b c = true) : ltB a c = true := bl_trans _ _ _ h k
theorem ltB_tri {a b : ByteArray} (h : ltB a b = false) (k : a ≠ b) : ltB b a = true := bl_tri _ _ h (fun e => k (byte_ext e))

/-- Texts that rise, each once. -/
def Rises (ds : List ByteArray) : Prop := ds.Pairwise (fun a b => ltB a b = true)
/-- A text among such, once. -/
def insB (x : ByteArray) : List ByteArray → List ByteArray
  | [] => [x]
  | d :: ds => if ltB d x = true then d :: insB x ds else if d = x then d :: ds else x :: d :: ds
/-- How many are less. -/
def posB (x : ByteArray) : List ByteArray → Nat
  | [] => 0
  | d :: ds => if ltB d x = true then posB x ds + 1 else 0
theorem posB_le (x : ByteArray) (ds : List ByteArray) : posB x ds ≤ ds.length := by
  induction ds with
  | nil => exact Nat.le_refl _
  | cons d ds ih => unfold posB; split <;> simp <;> omega
theorem posB_less (x : ByteArray) : ∀ (ds : List ByteArray) (t : Nat), t < posB x ds → ltB (ds.getD t x) x = true := by
  intro ds
  induction ds with
  | nil => intro t h; simp [posB] at h
  | cons d ds ih =>
    intro t h
    unfold posB at h
    split at h
    · cases t with
      | zero => simpa
      | succ t => simpa using ih t (by omega)
    · omega
theorem posB_not (x : ByteArray) : ∀ (ds : List ByteArray), Rises ds → ∀ t, posB x ds ≤ t → ltB (ds.getD t x) x = false := by
  intro ds
  induction ds with
  | nil => intro _ t _; simpa using ltB_irr x
  | cons d ds ih =>
    intro hr t h
    unfold posB at h
    have hr2 := List.pairwise_cons.1 hr
    split at h
    · rename_i hd
      cases t with
      | zero => omega
      | succ t => simpa using ih hr2.2 t (by omega)
    · rename_i hd
      cases t with
      | zero => simpa using hd
      | succ t =>
        rw [List.getD_cons_succ]
        by_cases ht : t < ds.length
        · rw [List.getD_eq_getElem?_getD, List.getElem?_eq_getElem ht, Option.getD_some]
          cases hx : ltB ds[t] x with
          | false => rfl
          | true =>
            have := ltB_trans (hr2.1 _ (List.getElem_mem ht)) hx
            exact absurd this hd
        · rw [List.getD_eq_getElem?_getD, List.getElem?_eq_none (by omega), Option.getD_none]
          exact ltB_irr x
theorem insB_at (x : ByteArray) : ∀ ds : List ByteArray, insB x ds = if ds[posB x ds]? = some x then ds else ds.take (posB x ds) ++ x :: ds.drop (posB x ds) := by
  intro ds
  induction ds with
  | nil => simp [insB, posB]
  | cons d ds ih =>
    unfold insB posB
    by_cases h : ltB d x = true
    · rw [if_pos h, if_pos h, ih, List.getElem?_cons_succ]
      split
      · rfl
      · rfl
    · rw [if_neg h, if_neg h]
      by_cases e : d = x
      · rw [if_pos e, if_pos (by simp [e])]
      · rw [if_neg e, if_neg (by simpa using e)]; rfl
theorem insB_mem {x y : ByteArray} : ∀ {ds : List ByteArray}, y ∈ insB x ds ↔ y = x ∨ y ∈ ds := by
  intro ds
  induction ds with
  | nil => simp [insB]
  | cons d ds ih =>
    unfold insB
    split
    · rw [List.mem_cons, ih, List.mem_cons]
      constructor
      · rintro (h | h | h) <;> simp [h]
      · rintro (h | h | h) <;> simp [h]
    · split
      · rename_i e; subst e; simp
      · simp
theorem insB_rises {x : ByteArray} : ∀ {ds : List ByteArray}, Rises ds → Rises (insB x ds) := by
  intro ds
  induction ds with
  | nil => intro _; exact List.pairwise_singleton _ _
  | cons d ds ih =>
    intro h
    have h2 := List.pairwise_cons.1 h
    unfold insB
    by_cases e : ltB d x = true
    · rw [if_pos e]
      refine List.pairwise_cons.2 ⟨fun y hy => ?_, ih h2.2⟩
      rcases insB_mem.1 hy with rfl | hy
      · exact e
      · exact h2.1 y hy
    · rw [if_neg e]
      by_cases e2 : d = x
      · rw [if_pos e2]; exact h
      · rw [if_neg e2]
        have hx := ltB_tri (by simpa using e) e2
        refine List.pairwise_cons.2 ⟨fun y hy => ?_, h⟩
        rcases List.mem_cons.1 hy with rfl | hy
        · exact hx
        · exact ltB_trans hx (h2.1 y hy)
theorem insB_len (x : ByteArray) (ds : List ByteArray) : ds.length ≤ (insB x ds).length ∧ (insB x ds).length ≤ ds.length + 1 ∧ 1 ≤ (insB x ds).length := by
  induction ds with
  | nil => simp [insB]
  | cons d ds ih =>
    unfold insB
    split
    · simp; omega
    · split <;> simp
/-- Two that rise and hold the same are one. -/
theorem rises_ext : ∀ {a b : List ByteArray}, Rises a → Rises b → (∀ x, x ∈ a ↔ x ∈ b) → a = b := by
  intro a
  induction a with
  | nil =>
    intro b _ _ h
    cases b with
    | nil => rfl
    | cons y b => have := (h y).2 (by simp); simp at this
  | cons x a ih =>
    intro b ha hb h
    cases b with
    | nil => have := (h x).1 (by simp); simp at this
    | cons y b =>
      have ha2 := List.pairwise_cons.1 ha
      have hb2 := List.pairwise_cons.1 hb
      have e : x = y := by
        have h1 := (h x).1 (by simp)
        have h2 := (h y).2 (by simp)
        rcases List.mem_cons.1 h1 with e | h1
        · exact e
        · rcases List.mem_cons.1 h2 with e | h2
          · exact e.symm
          · have := ltB_trans (ha2.1 y h2) (hb2.1 x h1)
            rw [ltB_irr] at this
            cases this
      subst e
      rw [ih ha2.2 hb2.2 (fun z => ?_)]
      constructor
      · intro hz
        rcases List.mem_cons.1 ((h z).1 (List.mem_cons_of_mem _ hz)) with e | hz'
        · subst e
          have := ha2.1 z hz
          rw [ltB_irr] at this
          cases this
        · exact hz'
      · intro hz
        rcases List.mem_cons.1 ((h z).2 (List.mem_cons_of_mem _ hz)) with e | hz'
        · subst e
          have := hb2.1 z hz
          rw [ltB_irr] at this
          cases this
        · exact hz'

/-- A set of records. -/
structure Sn where
  n : ByteArray
  t : Int
  l : Int
  ds : List ByteArray
/-- A name folded. -/
def foldB (n : ByteArray) : ByteArray := ⟨(foldR n.data.toList).toArray⟩
/-- May a record be of a set? -/
def okR (r : Rc) : Bool := isName r.n.data.toList && inB 4294967295 r.l && mayD r.t r.d.data.toList
/-- Is the set of that name and type? -/
def hasK (n : ByteArray) (t : Int) (s : Sn) : Bool := decide (s.n = n ∧ s.t = t)
/-- A set and one record more. -/
def updS (s : Sn) (r : Rc) : Sn := ⟨s.n, s.t, min s.l r.l, insB r.d s.ds⟩
/-- A set of none. -/
def frS (r : Rc) : Sn := ⟨foldB r.n, r.t, 86400, []⟩
/-- Sets and one record more. -/
def putS (r : Rc) : List Sn → List Sn
  | [] => [updS (frS r) r]
  | s :: ss => if hasK (foldB r.n) r.t s = true then updS s r :: ss else s :: putS r ss
def stepS (ss : List Sn) (r : Rc) : List Sn := if r.c = 1 then putS r ss else ss
def grpS (rs : List Rc) : List Sn := rs.foldl stepS []
/-- Is a row of records wrong? -/
def badG (rs : List Rc) : Bool := decide (64 < rs.length) || rs.any (fun r => !okR r)
/-- Where the set of that name and type stands. -/
def atS (n : ByteArray) (t : Int) (ss : List Sn) : Nat := ss.findIdx (hasK n t)

theorem atS_le (n : ByteArray) (t : Int) (ss : List Sn) : atS n t ss ≤ ss.length := List.findIdx_le_length
theorem atS_at {n : ByteArray} {t : Int} {ss : List Sn} (h : atS n t ss < ss.length) : hasK n t ss[atS n t ss] = true := List.findIdx_getElem (w := h)
theorem grpS_nil : grpS [] = [] := rfl
theorem grpS_snoc (rs : List Rc) (r : Rc) : grpS (rs ++ [r]) = stepS (grpS rs) r := by unfold grpS; rw [List.foldl_append]; rfl
theorem grpS_take {rs : List Rc} {k : Nat} (h : k < rs.length) : grpS (rs.take (k + 1)) = stepS (grpS (rs.take k)) rs[k] := by
  rw [List.take_succ_eq_append_getElem h, grpS_snoc]
theorem putS_new {r : Rc} : ∀ {ss : List Sn}, atS (foldB r.n) r.t ss = ss.length → putS r ss = ss ++ [updS (frS r) r] := by
  intro ss
  induction ss with
  | nil => intro _; rfl
  | cons s ss ih =>
    intro h
    unfold atS at h
    rw [List.findIdx_cons] at h
    cases hs : hasK (foldB r.n) r.t s with
    | true => rw [hs] at h; simp at h
    | false =>
      rw [hs] at h
      simp only [cond_false, List.length_cons, Nat.add_right_cancel_iff] at h
      unfold putS
      rw [hs, if_neg (by simp), ih h]
      rfl
theorem putS_old {r : Rc} : ∀ {ss : List Sn} (h : atS (foldB r.n) r.t ss < ss.length), putS r ss = ss.set (atS (foldB r.n) r.t ss) (updS ss[atS (foldB r.n) r.t ss] r) := by
  intro ss
  induction ss with
  | nil => intro h; simp at h
  | cons s ss ih =>
    intro h
    cases hs : hasK (foldB r.n) r.t s with
    | true =>
      have e : atS (foldB r.n) r.t (s :: ss) = 0 := by unfold atS; rw [List.findIdx_cons, hs]; rfl
      unfold putS
      rw [hs, if_pos rfl]
      simp only [e, List.set_cons_zero, List.getElem_cons_zero]
    | false =>
      have e : atS (foldB r.n) r.t (s :: ss) = atS (foldB r.n) r.t ss + 1 := by unfold atS; rw [List.findIdx_cons, hs]; rfl
      have h2 : atS (foldB r.n) r.t ss < ss.length := by rw [e] at h; simpa using h
      unfold putS
      rw [hs, if_neg (by simp), ih h2]
      simp only [e, List.set_cons_succ, List.getElem_cons_succ]
/-- What a list of sets has behind it. -/
theorem atS_snoc_old {n : ByteArray} {t : Int} {ss : List Sn} (s : Sn) (h : atS n t ss < ss.length) : atS n t (ss ++ [s]) = atS n t ss := by
  unfold atS at *
  rw [List.findIdx_append, if_pos h]
theorem atS_snoc_new {n : ByteArray} {t : Int} {ss : List Sn} (s : Sn) (h : atS n t ss = ss.length) : atS n t (ss ++ [s]) = if hasK n t s = true then ss.length else ss.length + 1 := by
  unfold atS at *
  rw [List.findIdx_append, if_neg (by omega), List.findIdx_cons]
  cases hasK n t s with
  | true => simp
  | false => simp; omega
/-- A set that is turned keeps its name and type. -/
theorem atS_set {n : ByteArray} {t : Int} {ss : List Sn} {k : Nat} (hk : k < ss.length) (s : Sn) (h : s.n = ss[k].n ∧ s.t = ss[k].t) : atS n t (ss.set k s) = atS n t ss := by
  have e : ∀ l : List Sn, atS n t l = (l.map (fun s => decide (s.n = n ∧ s.t = t))).findIdx id := by
    intro l
    unfold atS
    rw [List.findIdx_map]
    rfl
  rw [e, e]
  congr 1
  rw [List.map_set]
  apply List.ext_getElem (by simp)
  intro j h1 h2
  rw [List.getElem_set]
  split
  · rename_i e; subst e; simp [h.1, h.2]
  · rfl

end Go.Proofs.Ytdaegnmokaibpaa
