/- What is waited for, plainly: what was asked, the keys, what is taken and what is due. -/
import Derived.Test.YtbldoplemfjcjaaFoC
import Derived.Test.YtbldoplemfjcjaaStM
import Derived.Test.YtbldoplemfjcjaaGnD
import Derived.Test.YtbldoplemfjcjaaInA
namespace Go.Proofs.Ytbldoplemfjcjaa
open Go.RowKit
open Pl
namespace Ou

theorem ret_i {a b : Int} (h : a = b) : Ending.returned (.int .i64 a) = Ending.returned (.int .i64 b) := by rw [h]

/-- What was asked. -/
structure Ak where
  j : Int
  i : Int
  a : Int
  c : ByteArray
  g : ByteArray
  n : ByteArray
  t : Int
  u : Int
def akC (x : Ak) : List Value := [.int .i64 x.j, .int .i64 x.i, .int .i64 x.a, .string x.c, .string x.g, .string x.n, .int .i64 x.t, .int .i64 x.u]
theorem ak_inj {x y : Ak} (h : akC x = akC y) : x = y := by
  cases x; cases y
  unfold akC at h
  simp at h
  simp [h]
def akZ : Ak := ⟨0, 0, 0, ⟨#[]⟩, ⟨#[]⟩, ⟨#[]⟩, 0, 0⟩
/-- What was asked, and its place among all that ever were. -/
structure Tn where
  p : Nat
  x : Ak
def tnC (t : Tn) : List Value := .int .i64 (t.p : Int) :: akC t.x
def aF (l : List Ak) : List Value := l.flatMap akC
def tF (l : List Tn) : List Value := l.flatMap tnC
theorem aF_len (l : List Ak) : (aF l).length = l.length * 8 := flat_len (f := akC) (z := 8) (fun _ => rfl) l
theorem tF_len (l : List Tn) : (tF l).length = l.length * 9 := flat_len (f := tnC) (z := 9) (fun _ => rfl) l
theorem aF_one (l : List Ak) : ∀ y ∈ aF l, y.oneCell' = true := by
  intro y hy
  obtain ⟨x, _, h⟩ := List.mem_flatMap.1 hy
  simp [akC] at h
  rcases h with rfl | rfl | rfl | rfl | rfl | rfl | rfl | rfl <;> rfl
theorem tF_one (l : List Tn) : ∀ y ∈ tF l, y.oneCell' = true := by
  intro y hy
  obtain ⟨x, _, h⟩ := List.mem_flatMap.1 hy
  simp [tnC, akC] at h
  rcases h with rfl | rfl | rfl | rfl | rfl | rfl | rfl | rfl | rfl <;> rfl
theorem aF_app (l m : List Ak) : aF (l ++ m) = aF l ++ aF m := List.flatMap_append
theorem tF_app (l m : List Tn) : tF (l ++ m) = tF l ++ tF m := List.flatMap_append
theorem tF_drop (l : List Tn) (k : Nat) : (tF l).drop (k * 9) = tF (l.drop k) := by
  induction k generalizing l with
  | zero => simp
  | succ k ih =>
    cases l with
    | nil => simp [tF]
    | cons x l =>
      rw [List.drop_succ_cons, ← ih l, show (k + 1) * 9 = 9 + k * 9 from by omega, ← List.drop_drop]
      rfl
theorem tF_map (l : List Tn) (k : Nat) (hk : k < l.length) : ∀ i, i < 9 → (tF l)[k * 9 + i]? = (tnC l[k])[i]? := fun i hi => flat_get (f := tnC) (z := 9) (fun _ => rfl) l k hk i hi
theorem aF_map (l : List Ak) (k : Nat) (hk : k < l.length) : ∀ i, i < 8 → (aF l)[k * 8 + i]? = (akC l[k])[i]? := fun i hi => flat_get (f := akC) (z := 8) (fun _ => rfl) l k hk i hi

/-- A name in small letters; nothing, where it is none. -/
def fdO (n : ByteArray) : ByteArray := ⟨(foldR n.data.toList).toArray⟩
theorem fdO_list (n : ByteArray) : (fdO n).data.toList = foldR n.data.toList := by unfold fdO; simp
theorem fdO_size (n : ByteArray) : (fdO n).size ≤ n.size := by
  rw [← data_len, fdO_list, ← data_len n]
  unfold foldR
  split
  · rw [fold_len]; exact Nat.le_refl _
  · exact Nat.zero_le _
theorem fdO_same {a b : ByteArray} (ha : isName a.data.toList = true) : (fdO a = fdO b) ↔ sameB a.data.toList b.data.toList = true := by
  have e : fdO a = fdO b ↔ foldR a.data.toList = foldR b.data.toList := by
    rw [← fdO_list, ← fdO_list]
    constructor
    · intro h; rw [h]
    · exact fun h => ByteArray.ext (Array.ext' h)
  rw [e]
  unfold foldR sameB
  rw [if_pos ha, ha]
  cases hb : isName b.data.toList with
  | true => simp
  | false =>
    simp
    intro h
    have := (name_some ha).2
    have h1 := congrArg List.length h
    rw [fold_len] at h1
    have h2 : a.data.toList = [] := List.eq_nil_of_length_eq_zero (by simpa using h1)
    rw [h2] at this
    simp [nmS] at this

/-- Whom a reply must be from, its number and its question. -/
abbrev Ke := Int × Int × ByteArray × Int × Int
def keyQ (a i : Int) (n : ByteArray) (t c : Int) : Ke := (a, i, fdO n, t, c)
def keyA (x : Ak) : Ke := keyQ x.a x.i x.n x.t 1
structure OkA (x : Ak) : Prop where
  i0 : 0 ≤ x.i
  i1 : x.i ≤ 65535
  a0 : 0 ≤ x.a
  a1 : x.a ≤ 4294967295
  nm : isName x.n.data.toList = true
  t0 : 1 ≤ x.t
  t1 : x.t ≤ 65535
/-- How far the texts reach. -/
def Far (x : Ak) : Prop := x.c.size ≤ 140737488351232 ∧ x.g.size ≤ 140737488351232 ∧ x.n.size ≤ 140737488351232
theorem key_iff {x : Ak} (h : OkA x) (a i : Int) (n : ByteArray) (t c : Int) : keyA x = keyQ a i n t c ↔ x.a = a ∧ x.i = i ∧ c = 1 ∧ x.t = t ∧ sameB x.n.data.toList n.data.toList = true := by
  unfold keyA keyQ
  simp only [Prod.mk.injEq, fdO_same h.nm]
  constructor
  · rintro ⟨h1, h2, h3, h4, h5⟩; exact ⟨h1, h2, h5.symm, h4, h3⟩
  · rintro ⟨h1, h2, h3, h4, h5⟩; exact ⟨h1, h2, h5, h4, h3.symm⟩
def wrongA (x : Ak) : Bool := decide (x.i < 0) || decide (65535 < x.i) || decide (x.a < 0) || decide (4294967295 < x.a) || !isName x.n.data.toList || decide (x.t < 1) || decide (65535 < x.t)
theorem wrong_iff {x : Ak} : wrongA x = false ↔ OkA x := by
  unfold wrongA
  simp only [Bool.or_eq_false_iff, decide_eq_false_iff_not, Bool.not_eq_false']
  constructor
  · rintro ⟨⟨⟨⟨⟨⟨h1, h2⟩, h3⟩, h4⟩, h5⟩, h6⟩, h7⟩; exact ⟨by omega, by omega, by omega, by omega, h5, by omega, by omega⟩
  · rintro ⟨h1, h2, h3, h4, h5, h6, h7⟩; exact ⟨⟨⟨⟨⟨⟨by omega, by omega⟩, by omega⟩, by omega⟩, h5⟩, by omega⟩, by omega⟩
/-- A key that may be laid. -/
structure OkK (k : Ke) : Prop where
  a : (Lit.int .i64 k.1).wf = true
  i : (Lit.int .i64 k.2.1).wf = true
  n : k.2.2.1.size ≤ maxLen
  t : (Lit.int .i64 k.2.2.2.1).wf = true
  c : (Lit.int .i64 k.2.2.2.2).wf = true
theorem OkA.key {x : Ak} (h : OkA x) : OkK (keyA x) := by
  have h1 := (name_some h.nm).1
  have h2 := fdO_size x.n
  rw [data_len] at h1
  refine ⟨WalkArith.wf_i64 (by have := h.a0; have := h.a1; show -9223372036854775808 ≤ x.a ∧ x.a ≤ 9223372036854775807; omega), WalkArith.wf_i64 (by have := h.i0; have := h.i1; show -9223372036854775808 ≤ x.i ∧ x.i ≤ 9223372036854775807; omega), ?_, WalkArith.wf_i64 (by have := h.t0; have := h.t1; show -9223372036854775808 ≤ x.t ∧ x.t ≤ 9223372036854775807; omega), by show (Lit.int .i64 1).wf = true; decide⟩
  show (fdO x.n).size ≤ maxLen
  unfold maxLen; omega

/-- Is it what a reply of that key may be for? -/
def mt (k : Ke) (t : Tn) : Bool := decide (keyA t.x = k)
theorem mt_iff {k : Ke} {t : Tn} : mt k t = true ↔ keyA t.x = k := by unfold mt; simp
/-- Is it no longer waited for? -/
def dueB (now : Int) (t : Tn) : Bool := decide (t.x.u ≤ now)
/-- By their places. -/
def Rise (T : List Tn) : Prop := T.Pairwise (fun x y => x.p < y.p)
theorem Rise.sub {T S : List Tn} (h : Rise T) (hs : S.Sublist T) : Rise S := List.Pairwise.sublist hs h
theorem Rise.snoc {T : List Tn} (h : Rise T) {t : Tn} (ht : ∀ s ∈ T, s.p < t.p) : Rise (T ++ [t]) :=
  List.pairwise_append.2 ⟨h, List.pairwise_singleton _ _, fun x hx y hy => by simp at hy; subst hy; exact ht x hx⟩
theorem Rise.nodup {T : List Tn} (h : Rise T) : T.Nodup := List.Pairwise.imp (fun {a b} h e => by subst e; exact Nat.lt_irrefl _ h) h
/-- What rises and holds the same is the same. -/
theorem rise_eq {S T : List Tn} (hs : Rise S) (ht : Rise T) (hp : S.Perm T) : S = T := by
  refine List.Perm.eq_of_pairwise (le := fun x y : Tn => decide (x.p < y.p)) (fun a b _ _ h1 h2 => ?_) (hs.imp (fun h => by simpa using h)) (ht.imp (fun h => by simpa using h)) hp
  simp at h1 h2; omega

theorem erase_tail {α : Type} (p : α → Bool) : ∀ l : List α, (l.eraseP p).filter p = (l.filter p).tail := by
  intro l
  induction l with
  | nil => rfl
  | cons x l ih =>
    by_cases h : p x = true
    · rw [List.eraseP_cons_of_pos h, List.filter_cons_of_pos h, List.tail_cons]
    · rw [List.eraseP_cons_of_neg h, List.filter_cons_of_neg h, List.filter_cons_of_neg h, ih]
theorem erase_other {α : Type} (p q : α → Bool) (hpq : ∀ x, p x = true → q x = false) : ∀ l : List α, (l.eraseP p).filter q = l.filter q := by
  intro l
  induction l with
  | nil => rfl
  | cons x l ih =>
    by_cases h : p x = true
    · rw [List.eraseP_cons_of_pos h, List.filter_cons_of_neg (by rw [hpq x h]; simp)]
    · rw [List.eraseP_cons_of_neg h, List.filter_cons, List.filter_cons, ih]
theorem find_head {α : Type} (p : α → Bool) (l : List α) : l.find? p = (l.filter p).head? := by
  induction l with
  | nil => rfl
  | cons x l ih =>
    by_cases h : p x = true
    · rw [List.find?_cons_of_pos h, List.filter_cons_of_pos h]; rfl
    · rw [List.find?_cons_of_neg h, List.filter_cons_of_neg h, ih]

end Ou
end Go.Proofs.Ytbldoplemfjcjaa
