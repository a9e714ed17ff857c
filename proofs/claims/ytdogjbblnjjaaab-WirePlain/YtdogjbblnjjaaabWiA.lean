/- Messages, plainly: which may be, how they are written, how they are read. -/
import Derived.Test.YtdogjbblnjjaaabHdH
import Derived.Test.YtdogjbblnjjaaabCpN
import Derived.Test.YtdogjbblnjjaaabCpO
namespace Go.Proofs.Ytdogjbblnjjaaab
open Go.RowKit
open Pl

/-- A question. -/
structure Qn where
  n : ByteArray
  t : Int
  c : Int
/-- A record. -/
structure Rc where
  n : ByteArray
  t : Int
  c : Int
  l : Int
  d : ByteArray
/-- A header. -/
structure Hd where
  id : Int
  qr : Bool
  op : Int
  aa : Bool
  tc : Bool
  rd : Bool
  ra : Bool
  z : Int
  rc : Int
/-- A message. -/
structure Ms where
  h : Hd
  qs : List Qn
  an : List Rc
  ns : List Rc
  ar : List Rc

/-- Which may be. -/
def mayQ (q : Qn) : Bool := isName q.n.data.toList && (decide (1 ≤ q.t) && decide (q.t ≤ 65535)) && inB 65535 q.c
def mayR (r : Rc) : Bool := isName r.n.data.toList && inB 65535 r.c && inB 4294967295 r.l && mayD r.t r.d.data.toList
def mayHd (h : Hd) : Bool := mayH h.id h.op h.z h.rc 0 0 0 0
def few {α : Type} (f : α → Bool) (xs : List α) : Bool := decide (xs.length ≤ 64) && xs.all f
def mayM (m : Ms) : Bool := mayHd m.h && (few mayQ m.qs && few mayR m.an && few mayR m.ns && few mayR m.ar)

/-- What is written so far: the bytes, the rests. -/
abbrev St := List UInt8 × Marks
def stN (st : St) (n : ByteArray) : Option St := if namE st.1 st.2 n.data.toList = 0 then some (namB st.1 st.2 n.data.toList, namM st.1 st.2 n.data.toList) else none
def stR (st : St) (s : ByteArray) : Option St := if rawE st.1 s = 0 then some (rawB st.1 s, st.2) else none
/-- What stands behind a name. -/
def qB (q : Qn) : ByteArray := be2 q.t ++ be2 q.c
def rB (r : Rc) : ByteArray := be2 r.t ++ be2 r.c ++ be4 r.l ++ be2 (r.d.size : Int)
def stQ (st : St) (q : Qn) : Option St := (stN st q.n).bind fun a => stR a (qB q)
def stC (st : St) (r : Rc) : Option St := (stN st r.n).bind fun a => stR a (rB r ++ r.d)
def stAll {α : Type} (f : St → α → Option St) (o : Option St) (xs : List α) : Option St := xs.foldl (fun o x => o.bind fun a => f a x) o
def headS (m : Ms) : ByteArray := putS m.h.id (wordH m.h.qr m.h.op m.h.aa m.h.tc m.h.rd m.h.ra m.h.z m.h.rc) (m.qs.length : Int) (m.an.length : Int) (m.ns.length : Int) (m.ar.length : Int) 4
def putSt (m : Ms) : Option St := stAll stC (stAll stC (stAll stC (stAll stQ (some ((headS m).data.toList, [])) m.qs) m.an) m.ns) m.ar
/-- What Put gives. -/
def stV : Option St → Value
  | some st => .tuple #[.string ⟨st.1.toArray⟩, .int .i64 0]
  | none => .tuple #[.string ⟨#[]⟩, .int .i64 701]
def putV (m : Ms) : Value := if mayM m = true then stV (putSt m) else .tuple #[.string ⟨#[]⟩, .int .i64 700]

theorem stAll_none {α : Type} (f : St → α → Option St) (xs : List α) : stAll f none xs = none := by
  unfold stAll
  induction xs with
  | nil => rfl
  | cons x xs ih => exact ih
theorem stAll_cons {α : Type} (f : St → α → Option St) (o : Option St) (x : α) (xs : List α) : stAll f o (x :: xs) = stAll f (o.bind fun a => f a x) xs := rfl
theorem stAll_app {α : Type} (f : St → α → Option St) (o : Option St) (a b : List α) : stAll f o (a ++ b) = stAll f (stAll f o a) b := by unfold stAll; rw [List.foldl_append]
theorem stAll_snoc {α : Type} (f : St → α → Option St) (o : Option St) (xs : List α) (k : Nat) (h : k < xs.length) : stAll f o (xs.take (k + 1)) = (stAll f o (xs.take k)).bind fun a => f a xs[k] := by
  rw [List.take_succ_eq_append_getElem h, stAll_app]; rfl

/-- How it is read. -/
def getQ (s : ByteArray) (p : Nat) : Option (Qn × Nat) := match nameOf s.data.toList p with
  | none => none
  | some (n, a) => if a + 4 ≤ s.size ∧ val s a 2 ≠ 0 then some (⟨⟨n.toArray⟩, val s a 2, val s (a + 2) 2⟩, a + 4) else none
def getR (s : ByteArray) (p : Nat) : Option (Rc × Nat) := match nameOf s.data.toList p with
  | none => none
  | some (n, a) => if a + 10 + (val s (a + 8) 2).toNat ≤ s.size then
      (match dataOf s.data.toList (a + 10) (val s (a + 8) 2).toNat (val s a 2) with
       | none => none
       | some d => some (⟨⟨n.toArray⟩, val s a 2, val s (a + 2) 2, val s (a + 4) 4, ⟨d.toArray⟩⟩, a + 10 + (val s (a + 8) 2).toNat)) else none
/-- So many, one behind the other. -/
def getAll {α : Type} (f : Nat → Option (α × Nat)) (p : Nat) : Nat → Option (List α × Nat)
  | 0 => some ([], p)
  | k + 1 => match getAll f p k with
    | none => none
    | some (xs, a) => match f a with
      | none => none
      | some (x, b) => some (xs ++ [x], b)
theorem getAll_none {α : Type} {f : Nat → Option (α × Nat)} {p j : Nat} (h : getAll f p j = none) : ∀ k, j ≤ k → getAll f p k = none := by
  intro k
  induction k with
  | zero => intro hk; rw [show (0 : Nat) = j from by omega]; exact h
  | succ k ih =>
    intro hk
    by_cases e : j = k + 1
    · rw [← e]; exact h
    · rw [getAll, ih (by omega)]
theorem getAll_next {α : Type} {f : Nat → Option (α × Nat)} {p k a b : Nat} {xs : List α} {x : α} (h : getAll f p k = some (xs, a)) (hf : f a = some (x, b)) : getAll f p (k + 1) = some (xs ++ [x], b) := by rw [getAll, h]; simp only [hf]
theorem getAll_stop {α : Type} {f : Nat → Option (α × Nat)} {p k a : Nat} {xs : List α} (h : getAll f p k = some (xs, a)) (hf : f a = none) : getAll f p (k + 1) = none := by rw [getAll, h]; simp only [hf]
theorem getAll_len {α : Type} {f : Nat → Option (α × Nat)} {p : Nat} : ∀ {k a : Nat} {xs : List α}, getAll f p k = some (xs, a) → xs.length = k := by
  intro k
  induction k with
  | zero => intro a xs h; simp [getAll] at h; rw [h.1]; rfl
  | succ k ih =>
    intro a xs h
    rw [getAll] at h
    cases h1 : getAll f p k with
    | none => rw [h1] at h; simp at h
    | some z =>
      obtain ⟨ys, b⟩ := z
      rw [h1] at h
      simp only at h
      cases h2 : f b with
      | none => rw [h2] at h; simp at h
      | some z =>
        obtain ⟨x, c⟩ := z
        rw [h2] at h
        simp at h
        rw [← h.1, List.length_append, ih h1]; rfl

/-- The header that stands in s. -/
def hdOf (s : ByteArray) : Hd := ⟨val s 0 2, val s 2 2 / 32768 % 2 == 1, val s 2 2 / 2048 % 16, val s 2 2 / 1024 % 2 == 1, val s 2 2 / 512 % 2 == 1, val s 2 2 / 256 % 2 == 1, val s 2 2 / 128 % 2 == 1, val s 2 2 / 16 % 8, val s 2 2 / 1 % 16⟩
/-- The counts that stand in s. -/
def cnt (s : ByteArray) (i : Nat) : Nat := (val s (4 + 2 * i) 2).toNat
/-- One part, if there are not too many. -/
def part {α : Type} (f : Nat → Option (α × Nat)) (k p : Nat) : Option (List α × Nat) := if k ≤ 64 then getAll f p k else none
/-- The four parts, and the place behind them. -/
def parts (s : ByteArray) : Option ((List Qn × List Rc × List Rc × List Rc) × Nat) :=
  match part (getQ s) (cnt s 0) 12 with
  | none => none
  | some (qs, a) => match part (getR s) (cnt s 1) a with
    | none => none
    | some (an, b) => match part (getR s) (cnt s 2) b with
      | none => none
      | some (ns, c) => match part (getR s) (cnt s 3) c with
        | none => none
        | some (ar, d) => some ((qs, an, ns, ar), d)
def getM (s : ByteArray) : Option Ms :=
  if 12 ≤ s.size then match parts s with
    | none => none
    | some ((qs, an, ns, ar), d) => if d = s.size then some ⟨hdOf s, qs, an, ns, ar⟩ else none
  else none

theorem arr_list (s : ByteArray) : (⟨s.data.toList.toArray⟩ : ByteArray) = s := by cases s; simp
theorem list_arr (l : List UInt8) : (⟨l.toArray⟩ : ByteArray).data.toList = l := by simp

end Go.Proofs.Ytdogjbblnjjaaab
