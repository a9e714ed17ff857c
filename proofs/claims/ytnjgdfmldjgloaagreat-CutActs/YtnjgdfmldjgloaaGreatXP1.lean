/- Plain functions on bytes that tell what names and their texts are, with no word of the program. -/
import Derived.Test.YtnjgdfmldjgloaaGreatRows
import Derived.WalkKit
import Derived.WalkMore
import Derived.Deep.LoopGhost
import Derived.OwnWalk
import Derived.Deep.AppendLies
import Derived.Laws.IdiomStrings
import Derived.Laws.BytesArg
import Derived.Laws.Concat
import Derived.Laws.AppendOwnNone
import Derived.Deep.QuietTactic
import Derived.BigQuiet
import Derived.WalkSpells
import Derived.Deep.WholeRow
import Derived.Lib.BufferWrite
import Derived.Lib.UnsafeStr
import Derived.Laws.MakeOwn
import Derived.Deep.DeepMust
import Derived.Deep.RegionWith
import Derived.Laws.Bits128
import Derived.LoopN
import Derived.Lib.AppendStr
import Derived.Deep.AppendSrc
import Derived.Deep.Upon
import Derived.Deep.RegionHeld3
import Derived.Deep.RegionLawGrows
import Derived.SizedLaws
namespace Go.Proofs.YtnjgdfmldjgloaaGreat.Pl

/-- Does a byte stand as it is? -/
def standsB (c : Int) : Bool := decide (33 ≤ c ∧ c ≤ 126 ∧ c ≠ 46 ∧ c ≠ 92)

/-- May a label have so many bytes? -/
def sizeB (n : Int) : Bool := decide (1 ≤ n ∧ n ≤ 63)

/-- The labels of a name's bytes; the first number: how many bytes of a label are still to come. -/
def nmS : Nat → List UInt8 → Option Nat
  | _, [] => none
  | 0, c :: r => if c.toNat = 0 then (if r.length = 0 then some 0 else none) else if 63 < c.toNat then none else (nmS c.toNat r).map (· + 1)
  | k + 1, _ :: r => nmS k r

/-- How many labels a name has; none of what is no name. -/
def nm (l : List UInt8) : Option Nat := if 255 < l.length then none else nmS 0 l

def isName (l : List UInt8) : Bool := (nm l).isSome
def cnt (l : List UInt8) : Nat := (nm l).getD 0

theorem nmS_drop (k : Nat) (l : List UInt8) : nmS k l = nmS 0 (l.drop k) := by
  induction l generalizing k with
  | nil => simp [nmS]
  | cons c r ih =>
    cases k with
    | zero => rfl
    | succ k => rw [nmS, ih]; rfl

theorem drop_at (l : List UInt8) (p : Nat) (h : p < l.length) : l.drop p = l[p] :: l.drop (p + 1) := List.drop_eq_getElem_cons h

/-- The walk over the labels stands at p, and c labels lie behind it. -/
def At (l : List UInt8) (p c : Nat) : Prop := nmS 0 l = (nmS 0 (l.drop p)).map (· + c)

theorem at_start (l : List UInt8) : At l 0 0 := by simp [At]

theorem at_step {l : List UInt8} {p c : Nat} (h : At l p c) (hp : p < l.length) (h0 : l[p].toNat ≠ 0) (h1 : l[p].toNat ≤ 63) : At l (p + (1 + l[p].toNat)) (c + 1) := by
  unfold At at *
  rw [h, drop_at l p hp, nmS, if_neg h0, if_neg (by omega), nmS_drop, List.drop_drop]
  rw [show p + (1 + l[p].toNat) = p + 1 + l[p].toNat from by omega, Option.map_map]
  congr 1
  funext x
  simp [Function.comp]
  omega

theorem at_great {l : List UInt8} {p c : Nat} (h : At l p c) (hp : p < l.length) (h1 : 63 < l[p].toNat) : nmS 0 l = none := by
  unfold At at *
  rw [h, drop_at l p hp, nmS, if_neg (by omega), if_pos h1]; rfl

theorem at_past {l : List UInt8} {p c : Nat} (h : At l p c) (hp : l.length ≤ p) : nmS 0 l = none := by
  unfold At at *
  rw [h, List.drop_of_length_le hp]; rfl

theorem at_end {l : List UInt8} {p c : Nat} (h : At l p c) (hp : p < l.length) (h0 : l[p].toNat = 0) : nmS 0 l = if p + 1 = l.length then some c else none := by
  unfold At at *
  rw [h, drop_at l p hp, nmS, if_pos h0]
  by_cases e : p + 1 = l.length
  · rw [if_pos e, if_pos (by simp; omega)]; simp
  · rw [if_neg e, if_neg (by simp; omega)]; rfl

theorem nm_short {l : List UInt8} (h : l.length ≤ 255) : nm l = nmS 0 l := by unfold nm; rw [if_neg (by omega)]

/-- The text of a label's byte. -/
def esc (b : UInt8) : List UInt8 :=
  if standsB b.toNat then [b] else [92, UInt8.ofNat (48 + b.toNat / 100), UInt8.ofNat (48 + b.toNat / 10 % 10), UInt8.ofNat (48 + b.toNat % 10)]

/-- A digit? -/
def dig (c : UInt8) : Bool := decide (48 ≤ c.toNat ∧ c.toNat ≤ 57)
/-- What three digits tell. -/
def val3 (x y z : UInt8) : Nat := ((x.toNat - 48) * 10 + (y.toNat - 48)) * 10 + (z.toNat - 48)
/-- Do three bytes tell a byte that does not stand as it is? -/
def tells (x y z : UInt8) : Bool := dig x && dig y && dig z && decide (val3 x y z ≤ 255) && !standsB (val3 x y z)
/-- What three digits at a text's head tell. -/
def rbTail : List UInt8 → Option (UInt8 × Nat)
  | x :: y :: z :: _ => if tells x y z then some (UInt8.ofNat (val3 x y z), 4) else none
  | _ => none
/-- The byte with whose text a text begins, and that text's width. -/
def rb : List UInt8 → Option (UInt8 × Nat)
  | [] => none
  | c :: r => if standsB c.toNat then some (c, 1) else if c.toNat ≠ 92 then none else rbTail r

theorem rb_stands {c : UInt8} {r : List UInt8} (h : standsB c.toNat = true) : rb (c :: r) = some (c, 1) := by rw [rb, if_pos h]
theorem rb_other {c : UInt8} {r : List UInt8} (h : standsB c.toNat = false) (h2 : c.toNat ≠ 92) : rb (c :: r) = none := by rw [rb, if_neg (by simp [h]), if_pos h2]
theorem rb_short {c : UInt8} {r : List UInt8} (h : standsB c.toNat = false) (h2 : r.length < 3) : rb (c :: r) = none := by
  rw [rb, if_neg (by simp [h])]
  split
  · rfl
  · match r, h2 with
    | [], _ => rfl
    | [_], _ => rfl
    | [_, _], _ => rfl
theorem rb_tells {c x y z : UInt8} {r : List UInt8} (h : standsB c.toNat = false) (h2 : c.toNat = 92) : rb (c :: x :: y :: z :: r) = if tells x y z then some (UInt8.ofNat (val3 x y z), 4) else none := by
  rw [rb, if_neg (by simp [h]), if_neg (by simp [h2]), rbTail]

/-- The text of a name's bytes; the first number: how many bytes of a label are still to come. -/
def txS : Nat → List UInt8 → List UInt8
  | _, [] => []
  | 0, c :: r => if c.toNat = 0 then [] else txS c.toNat r
  | 1, b :: r => esc b ++ 46 :: txS 0 r
  | k + 2, b :: r => esc b ++ txS (k + 1) r

theorem txS_label (k : Nat) (r : List UInt8) (h : k + 1 ≤ r.length) : txS (k + 1) r = (r.take (k + 1)).flatMap esc ++ 46 :: txS 0 (r.drop (k + 1)) := by
  induction k generalizing r with
  | zero =>
    match r, h with
    | b :: r, _ => simp [txS]
  | succ k ih =>
    match r, h with
    | b :: r, h =>
      rw [txS, ih r (by simpa using h)]
      simp

/-- The text of what is a name; of what is none nothing is said. -/
def tx (l : List UInt8) : List UInt8 := if l.length = 1 then [46] else txS 0 l

/-- From p on a name goes on, and ahead of it lies the text 'done'. -/
def TxAt (l : List UInt8) (p : Nat) (done : List UInt8) : Prop := (nmS 0 (l.drop p)).isSome = true ∧ txS 0 l = done ++ txS 0 (l.drop p)

theorem txAt_start {l : List UInt8} (h : (nmS 0 l).isSome = true) : TxAt l 0 [] := ⟨h, rfl⟩

theorem nmS_cut {k : Nat} {l : List UInt8} (h : (nmS k l).isSome = true) : k < l.length := by
  induction l generalizing k with
  | nil => simp [nmS] at h
  | cons c r ih =>
    cases k with
    | zero => simp
    | succ k => rw [nmS] at h; have := ih h; simp; omega

theorem txAt_lt {l : List UInt8} {p : Nat} {done : List UInt8} (h : TxAt l p done) : p < l.length := by
  have := nmS_cut h.1
  simp at this
  omega

theorem txAt_end {l : List UInt8} {p : Nat} {done : List UInt8} (h : TxAt l p done) (hp : p < l.length) (h0 : l[p].toNat = 0) : txS 0 l = done := by
  rw [h.2, drop_at l p hp, txS, if_pos h0, List.append_nil]

theorem txAt_room {l : List UInt8} {p : Nat} {done : List UInt8} (h : TxAt l p done) (hp : p < l.length) (h0 : l[p].toNat ≠ 0) : l[p].toNat ≤ 63 ∧ p + 1 + l[p].toNat < l.length := by
  have h1 := h.1
  rw [drop_at l p hp, nmS, if_neg h0] at h1
  split at h1
  · simp at h1
  · rename_i h63
    have h2 : (nmS l[p].toNat (l.drop (p + 1))).isSome = true := by simpa using h1
    have := nmS_cut h2
    simp at this
    exact ⟨by omega, by omega⟩

theorem txAt_step {l : List UInt8} {p : Nat} {done : List UInt8} (h : TxAt l p done) (hp : p < l.length) (h0 : l[p].toNat ≠ 0) :
    TxAt l (p + 1 + l[p].toNat) (done ++ ((l.drop (p + 1)).take l[p].toNat).flatMap esc ++ [46]) := by
  have hr := txAt_room h hp h0
  have h1 := h.1
  have h2 := h.2
  rw [drop_at l p hp, nmS, if_neg h0, if_neg (by omega)] at h1
  refine ⟨?_, ?_⟩
  · rw [← List.drop_drop, ← nmS_drop]
    simpa using h1
  · rw [h2, drop_at l p hp, txS, if_neg h0]
    obtain ⟨k, hk⟩ : ∃ k, l[p].toNat = k + 1 := ⟨l[p].toNat - 1, by omega⟩
    rw [hk, txS_label k _ (by simp; omega), List.drop_drop]
    simp

end Go.Proofs.YtnjgdfmldjgloaaGreat.Pl

/- What May of package name and Num give, for every argument. -/
namespace Go.Proofs.YtnjgdfmldjgloaaGreat
open Go.RowKit
open Pl

theorem ret_bool {a b : Bool} (h : a = b) : Ending.returned (.bool a) = .returned (.bool b) := by rw [h]
theorem ret_int {k : IntKind} {a b : Int} (h : a = b) : Ending.returned (.int k a) = .returned (.int k b) := by rw [h]

theorem maySize_any (n : Int) (w : World) (h0 : -1000000 ≤ n) (h1 : n ≤ 1000000) :
    Calls Tryz.prog 98 #[.int .i64 n] w fun e w' => e = .returned (.bool (sizeB n)) ∧ w' = w := by
  go_enter Tryz.func98, Tryz.ntmps98
  go_wp2
  all_goals go_ret
  all_goals refine ⟨ret_bool ?_, rfl⟩
  · subst n; rfl
  · rw [Bool.eq_iff_iff]; simp [sizeB]; omega

theorem num_any (n : Int) (w : World) :
    Calls Tryz.prog 8 #[.int .i64 n] w fun e w' => e = .returned (.int .i64 n) ∧ w' = w := by
  go_enter Tryz.func8, Tryz.ntmps8
  go_wp2
  go_ret
  exact ⟨rfl, rfl⟩

theorem byte_at (s : ByteArray) (k : Nat) (h : k < s.size) : s.data.toList[k]'(by simpa using h) = s[k] := rfl

theorem ret_name {l : List UInt8} {n : Nat} (h : nm l = some n) : Ending.returned (.tuple #[.int .i64 n, .bool true]) = .returned (.tuple #[.int .i64 (cnt l), .bool (isName l)]) := by
  unfold cnt isName; rw [h]; rfl
theorem ret_noName {l : List UInt8} (h : nm l = none) : Ending.returned (.tuple #[.int .i64 0, .bool false]) = .returned (.tuple #[.int .i64 (cnt l), .bool (isName l)]) := by
  unfold cnt isName; rw [h]; rfl

theorem measure_any (s : ByteArray) (w : World) (hs : s.size ≤ maxLen) :
    Calls Tryz.prog 83 #[.string s] w fun e w' => e = .returned (.tuple #[.int .i64 (cnt s.data.toList), .bool (isName s.data.toList)]) ∧ w' = w := by
  unfold maxLen at hs
  have hl : s.data.toList.length = s.size := by rw [Array.length_toList]; rfl
  by_cases h : s.size ≤ 255
  · go_enter Tryz.func83, Tryz.ntmps83
    go_wp2
    go_step3
    go_wp2
    go_step3
    go_wp2
    go_loop [4, 5] (fun c i => ∃ n p : Nat, n ≤ p ∧ p ≤ 400 ∧ c = .int .i64 n ∧ i = .int .i64 p ∧ Hid (At s.data.toList p n)) (fun _ i => s.size - (intOf i).toNat)
    case atStart => exact ⟨0, 0, Nat.zero_le _, by omega, rfl, rfl, at_start _⟩
    case round =>
      obtain ⟨n, p, hnp, hp4, rfl, rfl, hat⟩ := hrel
      have hn := nm_short (l := s.data.toList) (by omega)
      have HN : Hid (nm s.data.toList = nmS 0 s.data.toList) := hn
      clear hn
      by_cases hlt : p < s.size
      · have hb := UInt8.toNat_lt (s[p])
        have hlt' : p < s.data.toList.length := by omega
        by_cases h0 : ((s[p].toNat : Int) == 0) = true
        · have hz : s[p].toNat = 0 := by simpa using h0
          have HE : Hid (nm s.data.toList = if p + 1 = s.data.toList.length then some n else none) := HN.out.trans (at_end hat hlt' hz)
          clear hz
          by_cases he : ((p : Int) != (s.size : Int) - 1) = true
          · have hne : ¬ (p + 1 = s.data.toList.length) := by simp at he; omega
            go_wp2
            go_ret2
            refine ⟨ret_noName ?_, rfl⟩
            rw [HE.out, if_neg hne]
          · have hne : (p + 1 = s.data.toList.length) := by simp at he; omega
            go_wp2
            go_ret2
            refine ⟨ret_name ?_, rfl⟩
            rw [HE.out, if_pos hne]
        · have hz : s[p].toNat ≠ 0 := by simpa using h0
          by_cases h6 : sizeB (s[p].toNat) = true
          · have h63 : s[p].toNat ≤ 63 := by simp [sizeB] at h6; omega
            have HE : Hid (At s.data.toList (p + (1 + s[p].toNat)) (n + 1)) := at_step hat hlt' hz h63
            go_wp2_with (go_at_call 98; refine (maySize_any _ _ (by omega) (by omega)).mono ?_; rintro e w' ⟨rfl, rfl⟩)
            go_round
            case rel => exact ⟨n + 1, p + (1 + s[p].toNat), by omega, by omega, by go_num, by go_num, HE⟩
            case measure => simp [intOf]; omega
          · have h63 : 63 < s[p].toNat := by simp [sizeB] at h6; omega
            have HE : Hid (nm s.data.toList = none) := HN.out.trans (at_great hat hlt' h63)
            go_wp2_with (go_at_call 98; refine (maySize_any _ _ (by omega) (by omega)).mono ?_; rintro e w' ⟨rfl, rfl⟩)
            rw [Exit.noGoto_ret]
            go_ret2
            exact ⟨ret_noName HE.out, rfl⟩
      · have HE : Hid (nm s.data.toList = none) := HN.out.trans (at_past hat (by omega))
        have hne : ((p : Int) != (s.size : Int) - 1) = true := by simp; omega
        go_wp2
        go_ret2
        exact ⟨ret_noName HE.out, rfl⟩
  · have HE : Hid (nm s.data.toList = none) := by unfold Hid nm; rw [if_pos (by omega)]
    go_enter Tryz.func83, Tryz.ntmps83
    go_wp2
    go_step3
    go_wp2
    try rw [Exit.noGoto_ret]
    go_ret2
    exact ⟨ret_noName HE.out, rfl⟩

theorem may_any (s : ByteArray) (w : World) (hs : s.size ≤ maxLen) :
    Calls Tryz.prog 67 #[.string s] w fun e w' => e = .returned (.bool (isName s.data.toList)) ∧ w' = w := by
  go_enter Tryz.func67, Tryz.ntmps67
  go_wp2_with (go_at_call 83; refine (measure_any _ _ hs).mono ?_; rintro e w' ⟨rfl, rfl⟩)
  go_ret
  exact ⟨rfl, rfl⟩

end Go.Proofs.YtnjgdfmldjgloaaGreat

/- Plain functions on bytes that tell which texts are a name's, with no word of the program. -/
namespace Go.Proofs.YtnjgdfmldjgloaaGreat.Pl

/-- All labels are read: the name, if it is not too long. -/
def fin (o : List UInt8) : Option (List UInt8) := if 255 < o.length + 1 then none else some (o ++ [0])

/-- A text is read within a label: o: the labels behind; lb: the label so far. -/
def pin : Nat → List UInt8 → List UInt8 → List UInt8 → Option (List UInt8)
  | 0, _, _, _ => none
  | _ + 1, _, _, [] => none
  | f + 1, o, lb, c :: r =>
    if c.toNat = 46 then (if sizeB lb.length then (if r.length = 0 then fin (o ++ UInt8.ofNat lb.length :: lb) else pin f (o ++ UInt8.ofNat lb.length :: lb) [] r) else none)
    else match rb (c :: r) with
      | none => none
      | some (b, k) => pin f o (lb ++ [b]) ((c :: r).drop k)

def pout (f : Nat) (o t : List UInt8) : Option (List UInt8) := if t.length = 0 then fin o else pin f o [] t

/-- The name whose text this is. -/
def prs (t : List UInt8) : Option (List UInt8) := if t = [46] then some [0] else if t.length = 0 ∨ 1020 < t.length then none else pin t.length [] [] t

def PIn (t o lb : List UInt8) (a : Nat) (R : Option (List UInt8)) : Prop := ∃ f, t.length - a ≤ f ∧ pin f o lb (t.drop a) = R
def POut (t o : List UInt8) (a : Nat) (R : Option (List UInt8)) : Prop := ∃ f, t.length - a ≤ f ∧ pout f o (t.drop a) = R

theorem rb_width {t : List UInt8} {b : UInt8} {k : Nat} (h : rb t = some (b, k)) : 1 ≤ k ∧ k ≤ t.length := by
  match t with
  | [] => simp [rb] at h
  | c :: r =>
    rw [rb] at h
    split at h
    · simp only [Option.some.injEq, Prod.mk.injEq] at h; simp; omega
    · split at h
      · simp at h
      · match r with
        | [] => simp [rbTail] at h
        | [_] => simp [rbTail] at h
        | [_, _] => simp [rbTail] at h
        | x :: y :: z :: r =>
          rw [rbTail] at h
          split at h
          · simp only [Option.some.injEq, Prod.mk.injEq] at h; simp; omega
          · simp at h

section
variable {t o lb : List UInt8} {a : Nat} {R : Option (List UInt8)}

theorem PIn.fuel (h : PIn t o lb a R) (ha : a < t.length) : ∃ f, t.length - (a + 1) ≤ f ∧ pin (f + 1) o lb (t[a] :: t.drop (a + 1)) = R := by
  obtain ⟨f, hf, h⟩ := h
  match f, hf with
  | 0, hf => omega
  | f + 1, hf => exact ⟨f, by omega, by rw [← drop_at t a ha]; exact h⟩

theorem in_dot (h : PIn t o lb a R) (ha : a < t.length) (hc : t[a].toNat = 46) (hs : sizeB lb.length = true) : POut t (o ++ UInt8.ofNat lb.length :: lb) (a + 1) R := by
  obtain ⟨f, hf, h⟩ := h.fuel ha
  rw [pin, if_pos hc, if_pos hs] at h
  exact ⟨f, hf, h⟩

theorem in_dot_no (h : PIn t o lb a R) (ha : a < t.length) (hc : t[a].toNat = 46) (hs : sizeB lb.length = false) : R = none := by
  obtain ⟨f, hf, h⟩ := h.fuel ha
  rw [pin, if_pos hc, if_neg (by simp [hs])] at h
  exact h.symm

theorem in_none (h : PIn t o lb a R) (ha : a < t.length) (hc : t[a].toNat ≠ 46) (hr : rb (t.drop a) = none) : R = none := by
  obtain ⟨f, hf, h⟩ := h.fuel ha
  rw [drop_at t a ha] at hr
  rw [pin, if_neg hc, hr] at h
  exact h.symm

theorem in_some (h : PIn t o lb a R) (ha : a < t.length) (hc : t[a].toNat ≠ 46) {b : UInt8} {k : Nat} (hr : rb (t.drop a) = some (b, k)) : PIn t o (lb ++ [b]) (a + k) R := by
  obtain ⟨f, hf, h⟩ := h.fuel ha
  have hk := rb_width hr
  have hr' := hr
  rw [drop_at t a ha] at hr'
  rw [pin, if_neg hc, hr'] at h
  refine ⟨f, by omega, ?_⟩
  rw [← List.drop_drop, drop_at t a ha]
  exact h

theorem in_end (h : PIn t o lb a R) (ha : t.length ≤ a) : R = none := by
  obtain ⟨f, hf, h⟩ := h
  rw [List.drop_of_length_le ha] at h
  match f with
  | 0 => exact h.symm
  | f + 1 => exact h.symm

theorem out_in (h : POut t o a R) (ha : a < t.length) : PIn t o [] a R := by
  obtain ⟨f, hf, h⟩ := h
  rw [pout, if_neg (by simp; omega)] at h
  exact ⟨f, hf, h⟩

theorem out_end (h : POut t o a R) (ha : t.length ≤ a) : R = fin o := by
  obtain ⟨f, hf, h⟩ := h
  rw [pout, if_pos (by simp; omega)] at h
  exact h.symm

theorem out_start (h0 : 0 < t.length) (h1 : t.length ≤ 1020) (h2 : t ≠ [46]) : POut t [] 0 (prs t) := by
  refine ⟨t.length, by omega, ?_⟩
  rw [prs, if_neg h2, if_neg (by omega), pout, List.drop_zero, if_neg (by omega)]
end

end Go.Proofs.YtnjgdfmldjgloaaGreat.Pl

/- Names and their texts go there and back: plain facts on bytes, with no word of the program. -/
namespace Go.Proofs.YtnjgdfmldjgloaaGreat.Pl

theorem esc_size (b : UInt8) : 1 ≤ (esc b).length ∧ (esc b).length ≤ 4 := by unfold esc; split <;> simp

theorem toNat_of {n : Nat} (h : n < 256) : (UInt8.ofNat n).toNat = n := by simp; omega

/-- What stands at a byte's text's head is no dot. -/
theorem esc_head (b : UInt8) : ∃ c r, esc b = c :: r ∧ c.toNat ≠ 46 := by
  unfold esc
  split
  · rename_i h
    refine ⟨b, [], rfl, ?_⟩
    simp [standsB] at h
    omega
  · exact ⟨92, _, rfl, by decide⟩

theorem rb_of_esc (b : UInt8) (X : List UInt8) : rb (esc b ++ X) = some (b, (esc b).length) := by
  have hb := b.toNat_lt
  cases h : standsB b.toNat with
  | true => simp only [esc, h, if_true]; exact rb_stands h
  | false =>
    have e : esc b = [92, UInt8.ofNat (48 + b.toNat / 100), UInt8.ofNat (48 + b.toNat / 10 % 10), UInt8.ofNat (48 + b.toNat % 10)] := by unfold esc; rw [if_neg (by simp [h])]
    rw [e]
    have ex := toNat_of (n := 48 + b.toNat / 100) (by omega)
    have ey := toNat_of (n := 48 + b.toNat / 10 % 10) (by omega)
    have ez := toNat_of (n := 48 + b.toNat % 10) (by omega)
    have hv : val3 (UInt8.ofNat (48 + b.toNat / 100)) (UInt8.ofNat (48 + b.toNat / 10 % 10)) (UInt8.ofNat (48 + b.toNat % 10)) = b.toNat := by
      unfold val3; rw [ex, ey, ez]; omega
    show rb (92 :: _ :: _ :: _ :: X) = _
    rw [rb_tells (by decide) (by decide), if_pos, hv]
    · simp
    · unfold tells dig
      rw [hv, ex, ey, ez, h]
      simp
      omega

theorem esc_of_rb {t : List UInt8} {b : UInt8} {k : Nat} (h : rb t = some (b, k)) : t = esc b ++ t.drop k := by
  match t with
  | [] => simp [rb] at h
  | c :: r =>
    cases hs : standsB c.toNat with
    | true =>
      rw [rb_stands hs] at h
      simp only [Option.some.injEq, Prod.mk.injEq] at h
      obtain ⟨rfl, rfl⟩ := h
      unfold esc
      rw [if_pos hs]; rfl
    | false =>
      by_cases h92 : c.toNat = 92
      · match r with
        | [] => rw [rb_short hs (by simp)] at h; simp at h
        | [_] => rw [rb_short hs (by simp)] at h; simp at h
        | [_, _] => rw [rb_short hs (by simp)] at h; simp at h
        | x :: y :: z :: r =>
          rw [rb_tells hs h92] at h
          split at h
          · rename_i ht
            simp only [Option.some.injEq, Prod.mk.injEq] at h
            obtain ⟨rfl, rfl⟩ := h
            simp only [tells, dig, Bool.and_eq_true, decide_eq_true_eq, Bool.not_eq_true'] at ht
            obtain ⟨⟨⟨⟨hx, hy⟩, hz⟩, hv⟩, hst⟩ := ht
            have ev := toNat_of (n := val3 x y z) (by omega)
            unfold esc
            rw [ev, if_neg (by simp [hst])]
            have e0 : c = 92 := UInt8.toNat_inj.1 (by simpa using h92)
            have e1 : UInt8.ofNat (48 + val3 x y z / 100) = x := UInt8.toNat_inj.1 (by rw [toNat_of (by omega)]; unfold val3; omega)
            have e2 : UInt8.ofNat (48 + val3 x y z / 10 % 10) = y := UInt8.toNat_inj.1 (by rw [toNat_of (by omega)]; unfold val3; omega)
            have e3 : UInt8.ofNat (48 + val3 x y z % 10) = z := UInt8.toNat_inj.1 (by rw [toNat_of (by omega)]; unfold val3; omega)
            rw [e0, e1, e2, e3]; rfl
          · simp at h
      · rw [rb_other hs h92] at h; simp at h

theorem pin_cons (f : Nat) (o lb r : List UInt8) (c : UInt8) : pin (f + 1) o lb (c :: r) =
    if c.toNat = 46 then (if sizeB lb.length then pout f (o ++ UInt8.ofNat lb.length :: lb) r else none)
    else match rb (c :: r) with
      | none => none
      | some (b, k) => pin f o (lb ++ [b]) ((c :: r).drop k) := rfl

theorem pin_label (lab : List UInt8) : ∀ (f : Nat) (o lb T : List UInt8), lab.length + 1 + T.length ≤ f →
    ∃ f', T.length ≤ f' ∧ pin f o lb (lab.flatMap esc ++ 46 :: T) = if sizeB (lb ++ lab).length then pout f' (o ++ UInt8.ofNat (lb ++ lab).length :: (lb ++ lab)) T else none := by
  induction lab with
  | nil =>
    intro f o lb T hf
    obtain ⟨f, rfl⟩ : ∃ g, f = g + 1 := ⟨f - 1, by omega⟩
    · refine ⟨f, by simp at hf; omega, ?_⟩
      show pin (f + 1) o lb (46 :: T) = _
      rw [pin_cons, if_pos (by decide), List.append_nil]
  | cons b lab ih =>
    intro f o lb T hf
    obtain ⟨f, rfl⟩ : ∃ g, f = g + 1 := ⟨f - 1, by omega⟩
    · obtain ⟨f', h1, h2⟩ := ih f o (lb ++ [b]) T (by simp at hf; omega)
      refine ⟨f', h1, ?_⟩
      obtain ⟨c, r, he, hc⟩ := esc_head b
      have hr := rb_of_esc b (lab.flatMap esc ++ 46 :: T)
      have e : (b :: lab).flatMap esc ++ 46 :: T = c :: (r ++ (lab.flatMap esc ++ 46 :: T)) := by
        rw [List.flatMap_cons, he]; simp
      have e2 : esc b ++ (lab.flatMap esc ++ 46 :: T) = c :: (r ++ (lab.flatMap esc ++ 46 :: T)) := by rw [he]; rfl
      rw [e2] at hr
      rw [e, pin_cons, if_neg hc, hr]
      show pin f o (lb ++ [b]) ((c :: (r ++ (lab.flatMap esc ++ 46 :: T))).drop (esc b).length) = _
      rw [← e2, List.drop_left, h2, List.append_assoc]
      rfl

theorem nmS_label {c : UInt8} {r : List UInt8} (h : (nmS 0 (c :: r)).isSome = true) (h0 : c.toNat ≠ 0) :
    c.toNat ≤ 63 ∧ c.toNat < r.length ∧ (nmS 0 (r.drop c.toNat)).isSome = true := by
  rw [nmS, if_neg h0] at h
  split at h
  · simp at h
  · have h2 : (nmS c.toNat r).isSome = true := by simpa using h
    exact ⟨by omega, nmS_cut h2, by rw [← nmS_drop]; exact h2⟩

theorem txS_cons {c : UInt8} {r : List UInt8} (h0 : c.toNat ≠ 0) (hl : c.toNat ≤ r.length) : txS 0 (c :: r) = (r.take c.toNat).flatMap esc ++ 46 :: txS 0 (r.drop c.toNat) := by
  rw [txS, if_neg h0]
  obtain ⟨k, hk⟩ : ∃ k, c.toNat = k + 1 := ⟨c.toNat - 1, by omega⟩
  rw [hk]
  exact txS_label k r (by omega)

theorem flat_long (lab : List UInt8) : lab.length ≤ (lab.flatMap esc).length := by
  induction lab with
  | nil => simp
  | cons b lab ih => have := esc_size b; rw [List.flatMap_cons, List.length_append, List.length_cons]; omega

/-- A name's text is read as the name. -/
theorem pout_text : ∀ (n : Nat) (l : List UInt8), l.length ≤ n → (nmS 0 l).isSome = true → ∀ (f : Nat) (o : List UInt8), o.length + l.length ≤ 255 → (txS 0 l).length ≤ f → pout f o (txS 0 l) = some (o ++ l) := by
  intro n
  induction n with
  | zero =>
    intro l hl h
    have : l = [] := List.eq_nil_of_length_eq_zero (by omega)
    subst this
    simp [nmS] at h
  | succ n ih =>
    intro l hl h f o ho hf
    match l with
    | [] => simp [nmS] at h
    | c :: r =>
      by_cases h0 : c.toNat = 0
      · rw [nmS, if_pos h0] at h
        have hr : r = [] := by
          by_cases e : r.length = 0
          · exact List.eq_nil_of_length_eq_zero e
          · simp [e] at h
        subst hr
        have ec : c = 0 := UInt8.toNat_inj.1 (by simpa using h0)
        subst ec
        simp at ho
        show fin o = _
        rw [fin, if_neg (by omega)]
      · obtain ⟨h63, hlt, hn⟩ := nmS_label h h0
        rw [txS_cons h0 (by omega)] at hf ⊢
        have hlen : (r.take c.toNat).length = c.toNat := by simp; omega
        have hfl := flat_long (r.take c.toNat)
        simp only [List.length_append, List.length_cons] at hf
        rw [pout, if_neg (by simp)]
        obtain ⟨f', h1, h2⟩ := pin_label (r.take c.toNat) f o [] (txS 0 (r.drop c.toNat)) (by omega)
        rw [h2]
        simp only [List.nil_append]
        rw [hlen, if_pos (by simp [sizeB]; omega)]
        have ec : UInt8.ofNat c.toNat = c := by simp
        rw [ec]
        have hl' : (r.drop c.toNat).length ≤ n := by simp at hl ⊢; omega
        rw [ih _ hl' hn f' _ (by simp at ho ⊢; omega) h1]
        simp

theorem txS_short : ∀ (l : List UInt8) (k : Nat), (txS k l).length ≤ 4 * l.length + (if k = 0 then 0 else 1) := by
  intro l
  induction l with
  | nil => intro k; simp [txS]
  | cons b r ih =>
    intro k
    have he := esc_size b
    match k with
    | 0 =>
      rw [txS]
      split
      · simp
      · have := ih b.toNat
        split at this <;> simp <;> omega
    | 1 => have := ih 0; simp [txS] at this ⊢; omega
    | k + 2 => have := ih (k + 1); simp [txS] at this ⊢; omega

theorem name_some {l : List UInt8} (h : isName l = true) : l.length ≤ 255 ∧ (nmS 0 l).isSome = true := by
  unfold isName nm at h
  split at h
  · simp at h
  · exact ⟨by omega, h⟩

theorem name_root {l : List UInt8} (h : isName l = true) (h1 : l.length = 1) : l = [0] := by
  match l, h1 with
  | [c], _ =>
    simp only [isName, nm, nmS] at h
    by_cases hc : c.toNat = 0
    · rw [show c = 0 from UInt8.toNat_inj.1 (by simpa using hc)]
    · simp [hc] at h

theorem name_long {l : List UInt8} (h : isName l = true) (h1 : l.length ≠ 1) : ∃ c r, l = c :: r ∧ c.toNat ≠ 0 := by
  obtain ⟨_, hs⟩ := name_some h
  match l with
  | [] => simp [nmS] at hs
  | c :: r =>
    refine ⟨c, r, rfl, fun h0 => h1 ?_⟩
    rw [nmS, if_pos h0] at hs
    by_cases e : r.length = 0
    · simp [e]
    · simp [e] at hs

/-- There and back: a name. -/
theorem prs_tx {l : List UInt8} (h : isName l = true) : prs (tx l) = some l := by
  obtain ⟨h255, hs⟩ := name_some h
  by_cases h1 : l.length = 1
  · rw [name_root h h1]; decide
  · obtain ⟨c, r, rfl, h0⟩ := name_long h h1
    have ht : tx (c :: r) = txS 0 (c :: r) := by unfold tx; rw [if_neg h1]
    obtain ⟨h63, hlt, hn⟩ := nmS_label hs h0
    have hc := txS_cons h0 (Nat.le_of_lt hlt)
    have hshort := txS_short (c :: r) 0
    have hp := pout_text _ (c :: r) (Nat.le_refl _) hs (txS 0 (c :: r)).length [] (by simpa using h255) (Nat.le_refl _)
    rw [ht, prs]
    have hne : txS 0 (c :: r) ≠ [46] := by
      rw [hc]
      intro e
      have := congrArg List.length e
      have hfl := flat_long (r.take c.toNat)
      simp at this hfl
      omega
    have h0l : (txS 0 (c :: r)).length ≠ 0 := by rw [hc]; simp
    rw [if_neg hne, if_neg (by simp only [if_true] at hshort; omega)]
    rw [pout, if_neg h0l] at hp
    exact hp

/-- What is read within a label is a label's rest, a dot, and a name's text. -/
theorem pin_gives : ∀ (f : Nat) (o lb t l : List UInt8), pin f o lb t = some l →
    ∃ lab T N : List UInt8, t = lab.flatMap esc ++ 46 :: T ∧ sizeB (lb ++ lab).length = true ∧ l = o ++ UInt8.ofNat (lb ++ lab).length :: (lb ++ lab ++ N) ∧ (nmS 0 N).isSome = true ∧ txS 0 N = T ∧ l.length ≤ 255 := by
  intro f
  induction f with
  | zero => intro o lb t l h; simp [pin] at h
  | succ f ih =>
    intro o lb t l h
    match t with
    | [] => simp [pin] at h
    | c :: r =>
      rw [pin_cons] at h
      by_cases hc : c.toNat = 46
      · rw [if_pos hc] at h
        have ec : c = 46 := UInt8.toNat_inj.1 (by simpa using hc)
        subst ec
        cases hs : sizeB lb.length with
        | false => simp [hs] at h
        | true =>
          rw [hs, if_pos rfl, pout] at h
          by_cases hr : r.length = 0
          · rw [if_pos hr, fin] at h
            split at h
            · simp at h
            · rename_i hsz
              have er : r = [] := List.eq_nil_of_length_eq_zero hr
              subst er
              simp only [Option.some.injEq] at h
              subst h
              refine ⟨[], [], [0], rfl, by simpa using hs, by simp, by decide, by decide, ?_⟩
              simp at hsz ⊢
              omega
          · rw [if_neg hr] at h
            obtain ⟨lab, T, N, h1, h2, h3, h4, h5, h6⟩ := ih _ _ _ _ h
            simp only [List.nil_append] at h2 h3
            have hl : 1 ≤ lab.length ∧ lab.length ≤ 63 := by simp [sizeB] at h2; omega
            have en := toNat_of (n := lab.length) (by omega)
            refine ⟨[], r, UInt8.ofNat lab.length :: (lab ++ N), rfl, by simpa using hs, by rw [h3]; simp, ?_, ?_, h6⟩
            · rw [nmS, en, if_neg (by omega), if_neg (by omega), nmS_drop, List.drop_left]
              simpa using h4
            · rw [txS_cons (by rw [en]; omega) (by rw [en]; simp), en, List.drop_left, List.take_left, h5, ← h1]
      · rw [if_neg hc] at h
        cases hr : rb (c :: r) with
        | none => rw [hr] at h; simp at h
        | some bk =>
          obtain ⟨b, k⟩ := bk
          rw [hr] at h
          obtain ⟨lab, T, N, h1, h2, h3, h4, h5, h6⟩ := ih _ _ _ _ h
          refine ⟨b :: lab, T, N, ?_, by simpa using h2, by rw [h3]; simp, h4, h5, h6⟩
          have := esc_of_rb hr
          rw [this, h1]
          simp

/-- There and back: a text. -/
theorem tx_prs {t l : List UInt8} (h : prs t = some l) : isName l = true ∧ tx l = t := by
  rw [prs] at h
  split at h
  · rename_i e
    simp only [Option.some.injEq] at h
    subst h
    subst e
    exact ⟨by decide, by decide⟩
  · split at h
    · simp at h
    · obtain ⟨lab, T, N, h1, h2, h3, h4, h5, h6⟩ := pin_gives _ _ _ _ _ h
      simp only [List.nil_append] at h2 h3
      have hl : 1 ≤ lab.length ∧ lab.length ≤ 63 := by simp [sizeB] at h2; omega
      have en := toNat_of (n := lab.length) (by omega)
      have hN : 0 < N.length := nmS_cut h4
      subst h3
      have hs : (nmS 0 (UInt8.ofNat lab.length :: (lab ++ N))).isSome = true := by
        rw [nmS, en, if_neg (by omega), if_neg (by omega), nmS_drop, List.drop_left]
        simpa using h4
      refine ⟨by unfold isName nm; rw [if_neg (by omega)]; exact hs, ?_⟩
      unfold tx
      rw [if_neg (by simp only [List.length_cons, List.length_append]; omega), txS_cons (by rw [en]; omega) (by rw [en]; simp), en, List.drop_left, List.take_left, h5, ← h1]

end Go.Proofs.YtnjgdfmldjgloaaGreat.Pl

/- Laws for rows of bytes that a call owns; small words on strings and worlds. -/
namespace Go.Proofs.YtnjgdfmldjgloaaGreat
open Go.RowKit
open Pl

/-- A byte as a cell. -/
def bv (b : UInt8) : Value := .int .u8 (b.toNat : Int)

theorem info5 : (Tryz.prog.info? 5).map (fun i => (i.zero, i.size, i.bytes)) = some (some (.int .u8 0), 1, 1) := by kernel_rfl

/-- Bytes that have just been laid in a block of their own are appended to a row of bytes that the call owns. -/
theorem wpList_app {w0 : World} {ops : Array Oper} {rest : List Oper} {o : Oper} {a : Act} {Q : Exit → Act → World → Prop} (hgd : o.guard = none) (s x : Operand)
    (ho : o.op = .call { callee := .builtin .append, args := #[s, x], argTypes := #[110, 110] }) (w : World) (L : List Value) (hw : w0 = w.alloc (.cells L.toArray 5)) (base : Nat) (v : Value) (n : Nat) (xs : List Value) (hs : a.eval s = v) (hown : w.ownsRow base 5 1 v n xs)
    (hx : a.eval x = .slice (some ⟨w.heap.size, 0, none⟩) L.length L.length) (hL : ∀ u ∈ L, ∃ z, u = .int .u8 z) (hm : 0 < L.length) (hn : n + L.length ≤ 140737488355328) (hbase : base ≤ w.heap.size)
    (h : ∀ g cap w', w'.ownsRow base 5 1 (.slice (some ⟨g, 0, none⟩) (n + L.length) cap) (n + L.length) (xs ++ L) → w.grownBy w' v.ownBlock → (v.ownBlock = some g ∨ w.heap.size ≤ g) → g < w'.heap.size →
      wpList Tryz.prog ops Q rest (a.put o.dst (.slice (some ⟨g, 0, none⟩) (n + L.length) cap)) w') : wpList Tryz.prog ops Q (o :: rest) a w0 := by
  subst hw
  obtain ⟨i0, hi, hz0, hz1, hz2⟩ := info_parts info5
  refine wpList_append_lies _ hgd s x 110 ho base 5 i0 (.int .u8 0) 1 1 Tryz.underlying110 hi hz0 hz1 hz2 rfl (by decide) v n xs hs (hown.alloc _) ⟨w.heap.size, 0, none⟩ L.length L.length L hx (by omega)
    (by simpa using World.news_of_block (heap_alloc_new w (.cells L.toArray 5))) (fun u hu => by obtain ⟨z, rfl⟩ := hL u hu; rfl) hm (by unfold maxLen; omega) (by omega) (by simp; omega) (w.heap.size + 1) (by simp) ?_
  intro g cap w' h1 h2 h3 h4
  refine h g cap w' h1 ?_ (h3.imp id (fun e => by omega)) h4
  refine ⟨h2.os, h2.tape, h2.output, ?_, fun k hk hne => ?_⟩
  · have := h2.size; simp at this; omega
  · exact (h2.block k (by simp; omega) hne).trans (Below.heap_alloc w _ k hk)

/-- A string's bytes are laid in a block of their own. -/
theorem wpList_bytes (w : World) {ops : Array Oper} {rest : List Oper} {o : Oper} {a : Act} {Q : Exit → Act → World → Prop} (hgd : o.guard = none) (x : Operand)
    (ho : o.op = .convert 9 110 x) (s : ByteArray) (hx : a.eval x = .string s) (l : List UInt8) (hl : s.data.toList = l) (n : Nat) (hn : l.length = n)
    (h : ∀ cap w', (∀ j (hj : j < l.length), w'.cell? ⟨w.heap.size, j, none⟩ = some (.int .u8 (l[j].toNat : Int))) → w.grownBy w' none → w'.heap.size = w.heap.size + 1 →
      wpList Tryz.prog ops Q rest (a.put o.dst (.slice (some ⟨w.heap.size, 0, none⟩) n cap)) w') : wpList Tryz.prog ops Q (o :: rest) a w := by
  refine wpList_plain hgd fun K hK => ?_
  have hr := run_bytes_of_string (P := Tryz.prog) w 9 110 5 s Tryz.underlying9 Tryz.underlying110 Tryz.underlying5
  have hsz : s.size = n := by rw [← hn, ← hl, Array.length_toList]; rfl
  unfold Oper.wp execOp
  simp only [ho, hx, Sem.run_bind, hr, Result.andThen_ok, Sem.run_pure]
  rw [hsz]
  refine hK _ _ (h _ _ (fun j hj => ?_) ⟨rfl, rfl, rfl, by simp, fun k hk _ => Below.heap_alloc w.drew _ k hk⟩ (by simp))
  subst hl
  have hj' : j < s.size := by omega
  rw [show w.heap.size = w.drew.heap.size from rfl, World.cell?_alloc_mark]
  unfold bytesRow
  rw [Array.getElem?_append_left (by simpa using hj)]
  have hd : j < s.data.size := hj'
  rw [Array.getElem?_map, Array.getElem?_eq_getElem hd]
  rfl

/-- A row of bytes that the call owns becomes a string. -/
theorem wpList_string (w : World) {ops : Array Oper} {rest : List Oper} {o : Oper} {a : Act} {Q : Exit → Act → World → Prop} (hgd : o.guard = none) (x : Operand)
    (ho : o.op = .convert 110 9 x) (base n : Nat) (v : Value) (l : List UInt8) (hx : a.eval x = v) (hown : w.ownsRow base 5 1 v n (l.map bv))
    (h : wpList Tryz.prog ops Q rest (a.put o.dst (.string ⟨l.toArray⟩)) w) : wpList Tryz.prog ops Q (o :: rest) a w := by
  refine wpList_plain hgd fun K hK => ?_
  have hln : l.length = n := by simpa using hown.1
  have hr : (convert 110 9 v).run Tryz.prog w = .ok (.string ⟨l.toArray⟩) w := by
    rcases hown.2 with ⟨rfl, rfl⟩ | ⟨g, cap, cur, rfl, hb, hg, hnc, hm, hcs, htake⟩
    · have hl : l = [] := List.eq_nil_of_length_eq_zero hln
      subst hl
      exact run_convert_bytes_nil w 110 5 Tryz.underlying110 Tryz.underlying5 0 0 9 Tryz.underlying9
    · subst hln
      refine run_convert_bytes_back w 110 9 5 ⟨g, 0, none⟩ cap l Tryz.underlying110 Tryz.underlying5 Tryz.underlying9 fun j hj => ?_
      refine World.news_of_block hg j _ ?_
      have : (cur.toList.take (l.length * 1))[j]? = (l.map bv)[j]? := by rw [htake]
      rw [List.getElem?_take_of_lt (by omega)] at this
      rw [this]
      simp [hj, bv]
  unfold Oper.wp execOp
  simp only [ho, hx, Sem.run_bind, hr, Result.andThen_ok, Sem.run_pure]
  exact hK _ _ h


theorem list_at (s : ByteArray) (k : Nat) (h : k < s.size) : s.data.toList.drop k = s[k] :: s.data.toList.drop (k + 1) :=
  List.drop_eq_getElem_cons (by rw [Array.length_toList]; exact h)
theorem below_of {w w' : World} (h : w.grownBy w' none) : Below w.heap.size w w' := ⟨h.os, h.tape, h.output, h.size, fun k hk => h.block k hk (by simp)⟩

theorem next {w b c : World} (h : Below w.heap.size w b) (k : Below b.heap.size b c) : Below w.heap.size w c := h.trans (k.mono h.size)
theorem lay {w b : World} (h : Below w.heap.size w b) (o : Obj) : Below w.heap.size w (b.alloc o) := h.alloc h.size o
theorem mk_data (s : ByteArray) : (⟨s.data.toList.toArray⟩ : ByteArray) = s := rfl
theorem mk_of {s : ByteArray} {l : List UInt8} (h : s.data.toList = l) : (⟨l.toArray⟩ : ByteArray) = s := by rw [← h]
theorem data_len (s : ByteArray) : s.data.toList.length = s.size := by rw [Array.length_toList]; rfl
theorem name_size {s : ByteArray} (h : isName s.data.toList = true) : s.size ≤ 255 := by rw [← data_len]; exact (name_some h).1
theorem may_as (s : ByteArray) (b : Bool) (w : World) (hs : s.size ≤ maxLen) (h : isName s.data.toList = b) :
    Calls Tryz.prog 67 #[.string s] w fun e w' => e = .returned (.bool b) ∧ w' = w := by rw [← h]; exact may_any s w hs
theorem conv_lit (l : List UInt8) (u : World) : (convert 110 9 (.slice (some ⟨u.heap.size, 0, none⟩) l.length l.length)).run Tryz.prog (u.alloc (.cells (l.map bv).toArray 5)) = .ok (.string ⟨l.toArray⟩) (u.alloc (.cells (l.map bv).toArray 5)) := by
  refine run_convert_bytes_back _ 110 9 5 ⟨u.heap.size, 0, none⟩ l.length l Tryz.underlying110 Tryz.underlying5 Tryz.underlying9 fun j hj => ?_
  refine World.news_of_block (heap_alloc_new u (.cells (l.map bv).toArray 5)) j _ ?_
  simp [hj, bv]

/-- The bytes of one row that the call owns are appended to another one, which is not empty. -/
theorem wpList_appv (w : World) {ops : Array Oper} {rest : List Oper} {o : Oper} {a : Act} {Q : Exit → Act → World → Prop} (hgd : o.guard = none) (s x : Operand)
    (ho : o.op = .call { callee := .builtin .append, args := #[s, x], argTypes := #[110, 110] }) (base : Nat) (g n cap : Nat) (xs : List Value) (hs : a.eval s = .slice (some ⟨g, 0, none⟩) n cap) (hown : w.ownsRow base 5 1 (.slice (some ⟨g, 0, none⟩) n cap) n xs)
    (a2 : Option Addr) (m c2 : Nat) (lb : List UInt8) (hx : a.eval x = .slice a2 m c2) (hlab : w.ownsRow base 5 1 (.slice a2 m c2) m (lb.map bv)) (hnil : m = 0 → a2 = none) (hn : n + m ≤ 140737488355328) (hbase : base ≤ w.heap.size)
    (h : ∀ g' cap' w', w'.ownsRow base 5 1 (.slice (some ⟨g', 0, none⟩) (n + m) cap') (n + m) (xs ++ lb.map bv) → w.grownBy w' (some g) →
      wpList Tryz.prog ops Q rest (a.put o.dst (.slice (some ⟨g', 0, none⟩) (n + m) cap')) w') : wpList Tryz.prog ops Q (o :: rest) a w := by
  obtain ⟨i0, hi, hz0, hz1, hz2⟩ := info_parts info5
  have hml : lb.length = m := by simpa using hlab.1
  by_cases hm : m = 0
  · have ha := hnil hm
    subst hm
    subst ha
    have hl : lb = [] := List.eq_nil_of_length_eq_zero hml
    subst hl
    have hc : c2 = 0 := by
      rcases hlab.2 with ⟨e, _⟩ | ⟨g', cap', cur, e, _⟩
      · simp at e; exact e
      · simp at e
    subst hc
    refine wpList_append_own_none hgd s x 110 ho base 5 i0 1 Tryz.underlying110 hi _ n xs hs hown hx ?_
    exact h g cap w (by simpa using hown) (World.grownBy.refl w _)
  · obtain ⟨g2, cap2, e, _, _⟩ := hlab.form (by omega)
    simp only [Value.slice.injEq, true_and] at e
    obtain ⟨rfl, rfl⟩ := e
    refine wpList_append_lies w hgd s x 110 ho base 5 i0 (.int .u8 0) 1 1 Tryz.underlying110 hi hz0 hz1 hz2 rfl (by decide) _ n xs hs hown ⟨g2, 0, none⟩ m c2 (lb.map bv) hx (by simpa using hml)
      (fun j u hu => ?_) (fun u hu => ?_) (by omega) (by unfold maxLen; omega) (by omega) hbase _ rfl ?_
    · have hj : j < m := by rw [← hml]; have := (List.getElem?_eq_some_iff.1 hu).1; simpa using this
      have hadd : (⟨g2, 0, none⟩ : Addr).add j = ⟨g2, j, none⟩ := by unfold Addr.add; split <;> simp_all
      rw [hadd, hlab.cellAt j (by omega), hu]
    · simp only [List.mem_map] at hu
      obtain ⟨b, _, rfl⟩ := hu
      rfl
    · intro g' cap' w' h1 h2 _ _
      exact h g' cap' w' h1 h2

/-- Two rows lie apart. -/
def Sep (v u : Value) : Prop := ∀ k, v.ownBlock = some k → u.ownBlock ≠ some k

theorem Sep.left {v u : Value} (h : Sep v u) : v.ownBlock = none ∨ v.ownBlock ≠ u.ownBlock := by
  cases hv : v.ownBlock with
  | none => exact .inl rfl
  | some k => exact .inr (fun e => h k hv e.symm)
theorem Sep.symm {v u : Value} (h : Sep v u) : Sep u v := fun k hk e => h k e hk
theorem sep_nil (v : Value) : Sep v (.slice none 0 0) := fun _ _ e => by simp [Value.ownBlock] at e

/-- A row that was appended to lies apart from one that lay apart from it. -/
theorem sep_grown {w : World} {base n g m cap : Nat} {v u : Value} {xs : List Value} (hs : Sep v u) (h3 : v.ownBlock = some g ∨ w.heap.size ≤ g) (hu : w.ownsRow base 5 1 u n xs) : Sep (.slice (some ⟨g, 0, none⟩) m cap) u := by
  intro k hk
  have e : g = k := by simpa [Value.ownBlock] using hk
  subst e
  rcases h3 with h3 | h3
  · exact hs g h3
  · intro he; have := (hu.lt g he).2; omega


theorem idx (s : ByteArray) (i : Nat) (c : Int) (hc : c = (i : Int)) (h : i < s.size) (u : World) : (Instr.index 9 (.string s) (.int .i64 c)).run Tryz.prog u = .ok (.int .u8 (s[i].toNat : Int)) u := by
  subst hc
  rw [run_index_string u 9 s .i64 (i : Int) Tryz.underlying9, dif_pos ⟨by omega, by omega⟩]
  rfl


/-- A row of bytes that the call owns becomes a string that has a name. -/
theorem wpList_stringB (w : World) {ops : Array Oper} {rest : List Oper} {o : Oper} {a : Act} {Q : Exit → Act → World → Prop} (hgd : o.guard = none) (x : Operand)
    (ho : o.op = .convert 110 9 x) (base n : Nat) (v : Value) (sb : ByteArray) (hx : a.eval x = v) (hown : w.ownsRow base 5 1 v n (sb.data.toList.map bv))
    (h : wpList Tryz.prog ops Q rest (a.put o.dst (.string sb)) w) : wpList Tryz.prog ops Q (o :: rest) a w :=
  wpList_string w hgd x ho base n v sb.data.toList hx hown h

end Go.Proofs.YtnjgdfmldjgloaaGreat

/- The places of a name's labels, and a text read loosely: plain facts on bytes, with no word of the program. -/
namespace Go.Proofs.YtnjgdfmldjgloaaGreat.Pl

/-- The places of labels, each behind the other; the last one is where the walk stands. -/
def LbSteps (l : List UInt8) (qs : List Nat) : Prop :=
  qs.getD 0 1 = 0 ∧ ∀ i, i + 1 < qs.length → qs.getD i 0 < l.length ∧ (l.getD (qs.getD i 0) 0).toNat ≠ 0 ∧ qs.getD (i + 1) 0 = qs.getD i 0 + 1 + (l.getD (qs.getD i 0) 0).toNat

/-- The places of a name's labels and of its last byte. -/
def Places (l : List UInt8) (qs : List Nat) : Prop :=
  LbSteps l qs ∧ qs.length = cnt l + 1 ∧ qs.getD (cnt l) 0 < l.length ∧ (l.getD (qs.getD (cnt l) 0) 0).toNat = 0

theorem getD_left {α : Type} (a b : List α) (i : Nat) (d : α) (h : i < a.length) : (a ++ b).getD i d = a.getD i d := by
  rw [List.getD_eq_getElem?_getD, List.getD_eq_getElem?_getD, List.getElem?_append_left h]

theorem steps_start (l : List UInt8) : LbSteps l [0] := ⟨rfl, fun i h => by simp at h⟩

theorem steps_next {l : List UInt8} {qs : List Nat} {p : Nat} (h : LbSteps l (qs ++ [p])) (hp : p < l.length) (h0 : l[p].toNat ≠ 0) : LbSteps l (qs ++ [p] ++ [p + 1 + l[p].toNat]) := by
  have hg : l.getD p 0 = l[p] := by simp [hp]
  refine ⟨?_, fun i hi => ?_⟩
  · have := h.1
    rw [getD_left _ _ _ _ (by simp)]
    exact this
  · simp at hi
    by_cases e : i = qs.length
    · subst e
      have e1 : (qs ++ [p] ++ [p + 1 + l[p].toNat]).getD qs.length 0 = p := by simp
      have e2 : (qs ++ [p] ++ [p + 1 + l[p].toNat]).getD (qs.length + 1) 0 = p + 1 + l[p].toNat := by simp
      rw [e1, e2, hg]
      exact ⟨hp, h0, rfl⟩
    · have := h.2 i (by simp; omega)
      rw [getD_left _ _ i _ (by simp; omega), getD_left _ _ (i + 1) _ (by simp; omega)]
      exact this

/-- At a name's last byte. -/
theorem places_end {l : List UInt8} {qs : List Nat} {p : Nat} (h : LbSteps l (qs ++ [p])) (ha : At l p qs.length) (hs : l.length ≤ 255) (hp : p < l.length) (h0 : l[p].toNat = 0) (he : p + 1 = l.length) :
    isName l = true ∧ Places l (qs ++ [p]) := by
  have hn : nm l = some qs.length := by rw [nm_short hs, at_end ha hp h0, if_pos he]
  have hc : cnt l = qs.length := by unfold cnt; rw [hn]; rfl
  refine ⟨by unfold isName; rw [hn]; rfl, h, by simp [hc], ?_, ?_⟩
  · rw [hc]; simpa using hp
  · rw [hc]; simp [hp, h0]

/-- Between two places lies a label. -/
theorem txAt_place {l : List UInt8} {qs : List Nat} {i : Nat} {done : List UInt8} (h : LbSteps l qs) (hi : i + 1 < qs.length) (ht : TxAt l (qs.getD i 0) done) :
    TxAt l (qs.getD (i + 1) 0) (done ++ ((l.drop (qs.getD i 0 + 1)).take (qs.getD (i + 1) 0 - (qs.getD i 0 + 1))).flatMap esc ++ [46]) := by
  obtain ⟨h1, h2, h3⟩ := h.2 i hi
  have hg : l.getD (qs.getD i 0) 0 = l[qs.getD i 0] := by rw [List.getD_eq_getElem?_getD, List.getElem?_eq_getElem h1]; rfl
  rw [hg] at h2 h3
  rw [h3]
  have e : qs.getD i 0 + 1 + l[qs.getD i 0].toNat - (qs.getD i 0 + 1) = l[qs.getD i 0].toNat := by omega
  rw [e]
  exact txAt_step ht h1 h2

theorem txAt_first {l : List UInt8} {qs : List Nat} (h : LbSteps l qs) (hn : isName l = true) (hq : 0 < qs.length) : TxAt l (qs.getD 0 0) [] := by
  have h0 : qs.getD 0 0 = 0 := by
    have := h.1
    match qs, hq with
    | q :: r, _ => simpa using this
  rw [h0]
  exact txAt_start (name_some hn).2

theorem txAt_last {l : List UInt8} {qs : List Nat} {done : List UInt8} (h : Places l qs) (ht : TxAt l (qs.getD (cnt l) 0) done) : txS 0 l = done := by
  obtain ⟨_, _, h3, h4⟩ := h
  have hg : l.getD (qs.getD (cnt l) 0) 0 = l[qs.getD (cnt l) 0] := by rw [List.getD_eq_getElem?_getD, List.getElem?_eq_getElem h3]; rfl
  rw [hg] at h4
  exact txAt_end ht h3 h4

theorem place_lt {l : List UInt8} {qs : List Nat} (h : Places l qs) {i : Nat} (hi : i < qs.length) : qs.getD i 0 < l.length := by
  obtain ⟨h1, h2, h3, _⟩ := h
  by_cases e : i + 1 < qs.length
  · exact (h1.2 i e).1
  · have : i = cnt l := by omega
    rw [this]; exact h3

theorem nmS_le : ∀ (l : List UInt8) (s k : Nat), nmS s l = some k → k ≤ l.length := by
  intro l
  induction l with
  | nil => intro s k h; simp [nmS] at h
  | cons c r ih =>
    intro s k h
    match s with
    | 0 =>
      rw [nmS] at h
      split at h
      · split at h
        · simp only [Option.some.injEq] at h; omega
        · simp at h
      · split at h
        · simp at h
        · obtain ⟨j, hj, hk⟩ := Option.map_eq_some_iff.1 h
          have := ih _ _ hj
          simp; omega
    | s + 1 =>
      rw [nmS] at h
      have := ih _ _ h
      simp; omega

theorem cnt_le (l : List UInt8) : cnt l ≤ 255 := by
  unfold cnt
  cases h : nm l with
  | none => simp
  | some k =>
    unfold nm at h
    split at h
    · simp at h
    · have := nmS_le _ _ _ h
      simp; omega

/- A text read loosely. -/

/-- If the text is a name's, the loose reading stands where the strict one does. -/
def J (t o lb : List UInt8) (a : Nat) (R : Option (List UInt8)) : Prop := R = none ∨ (lb = [] ∧ POut t o a R) ∨ (lb ≠ [] ∧ PIn t o lb a R)

theorem J.inn {t o lb : List UInt8} {a : Nat} {R : Option (List UInt8)} (h : J t o lb a R) (ha : a < t.length) : R = none ∨ PIn t o lb a R := by
  rcases h with h | ⟨rfl, h⟩ | ⟨_, h⟩
  · exact .inl h
  · exact .inr (out_in h ha)
  · exact .inr h

theorem J_dot {t o lb : List UInt8} {a : Nat} {R : Option (List UInt8)} (h : J t o lb a R) (ha : a < t.length) (hc : t[a].toNat = 46) :
    J t (o ++ UInt8.ofNat lb.length :: lb) [] (a + 1) R ∧ (255 < lb.length → R = none) := by
  rcases h.inn ha with h | h
  · exact ⟨.inl h, fun _ => h⟩
  · cases hs : sizeB lb.length with
    | true => exact ⟨.inr (.inl ⟨rfl, in_dot h ha hc hs⟩), fun hl => by simp [sizeB] at hs; omega⟩
    | false => exact ⟨.inl (in_dot_no h ha hc hs), fun _ => in_dot_no h ha hc hs⟩

theorem J_plain {t o lb : List UInt8} {a : Nat} {R : Option (List UInt8)} (h : J t o lb a R) (ha : a < t.length) (hc : t[a].toNat ≠ 46) (h92 : t[a].toNat = 92 → t.length ≤ a + 3) :
    J t o (lb ++ [t[a]]) (a + 1) R := by
  rcases h.inn ha with h | h
  · exact .inl h
  · have hd := drop_at t a ha
    cases hs : standsB t[a].toNat with
    | true =>
      have hr : rb (t.drop a) = some (t[a], 1) := by rw [hd]; exact rb_stands hs
      exact .inr (.inr ⟨by simp, in_some h ha hc hr⟩)
    | false =>
      refine .inl (in_none h ha hc ?_)
      rw [hd]
      by_cases e : t[a].toNat = 92
      · exact rb_short hs (by have := h92 e; simp; omega)
      · exact rb_other hs e

/-- What three bytes tell, loosely. -/
def loose (x y z : UInt8) : Int := 100 * ((x.toNat : Int) - 48) + 10 * ((y.toNat : Int) - 48) + (z.toNat : Int) - 48

theorem J_told {t o lb : List UInt8} {a : Nat} {R : Option (List UInt8)} (h : J t o lb a R) (ha : a + 3 < t.length) (h92 : t[a].toNat = 92) (b : UInt8) (hb : (b.toNat : Int) = loose t[a + 1] t[a + 2] t[a + 3] % 256) :
    J t o (lb ++ [b]) (a + 4) R := by
  rcases h.inn (by omega) with h | h
  · exact .inl h
  · have hst : standsB t[a].toNat = false := by rw [h92]; decide
    have hd : t.drop a = t[a] :: t[a + 1] :: t[a + 2] :: t[a + 3] :: t.drop (a + 4) := by
      rw [drop_at t a (by omega), drop_at t (a + 1) (by omega), drop_at t (a + 2) (by omega), drop_at t (a + 3) (by omega)]
    have hr : rb (t.drop a) = if tells t[a + 1] t[a + 2] t[a + 3] then some (UInt8.ofNat (val3 t[a + 1] t[a + 2] t[a + 3]), 4) else none := by rw [hd]; exact rb_tells hst h92
    by_cases ht : tells t[a + 1] t[a + 2] t[a + 3] = true
    · rw [if_pos ht] at hr
      have hv : UInt8.ofNat (val3 t[a + 1] t[a + 2] t[a + 3]) = b := by
        simp only [tells, dig, Bool.and_eq_true, decide_eq_true_eq, Bool.not_eq_true'] at ht
        obtain ⟨⟨⟨⟨hx, hy⟩, hz⟩, hv⟩, _⟩ := ht
        apply UInt8.toNat_inj.1
        rw [toNat_of (by omega)]
        unfold loose at hb
        unfold val3 at hv ⊢
        omega
      rw [hv] at hr
      exact .inr (.inr ⟨by simp, in_some h (by omega) (by omega) hr⟩)
    · rw [if_neg ht] at hr
      exact .inl (in_none h (by omega) (by omega) hr)

theorem PIn_short {t o lb l : List UInt8} {a : Nat} (h : PIn t o lb a (some l)) : o.length < 255 := by
  obtain ⟨f, _, h⟩ := h
  obtain ⟨lab, T, N, _, _, h3, h4, _, h6⟩ := pin_gives f o lb _ l h
  rw [h3] at h6
  simp at h6
  omega

/-- Where the loose reading ends. -/
theorem J_end {t o lb : List UInt8} {a : Nat} {R : Option (List UInt8)} (h : J t o lb a R) (he : t.length ≤ a ∨ 255 < o.length) : R = none ∨ R = some (o ++ [0]) := by
  by_cases ha : t.length ≤ a
  · rcases h with h | ⟨_, h⟩ | ⟨_, h⟩
    · exact .inl h
    · have := out_end h ha
      rw [this, fin]
      split
      · exact .inl rfl
      · exact .inr rfl
    · exact .inl (in_end h ha)
  · have ho : 255 < o.length := by omega
    rcases h.inn (by omega) with h | h
    · exact .inl h
    · match R with
      | none => exact .inl rfl
      | some l => have := PIn_short h; omega

/-- The reading of the whole text, once its name has been written again and held against it. -/
theorem loose_ends {t S : List UInt8} {R : Option (List UInt8)} (hR : R = prs t) (h : R = none ∨ R = some S) : prs t = if isName S = true ∧ tx S = t then some S else none := by
  subst hR
  rcases h with h | h
  · rw [h, if_neg]
    rintro ⟨h1, h2⟩
    rw [← h2, prs_tx h1] at h
    simp at h
  · rw [h, if_pos (tx_prs h)]

theorem J_start (t : List UInt8) (h : t ≠ [46]) : J t [] [] 0 (prs t) := by
  by_cases h0 : t.length = 0 ∨ 1020 < t.length
  · exact .inl (by rw [prs, if_neg h, if_pos h0])
  · exact .inr (.inl ⟨rfl, out_start (by omega) (by omega) h⟩)

end Go.Proofs.YtnjgdfmldjgloaaGreat.Pl

/- Orders: rows compared place by place, a beginning ahead; plain facts, with no word of the program. -/
namespace Go.Proofs.YtnjgdfmldjgloaaGreat.Pl

/-- What an order is: minus one, nought or one; turned round it changes its sign; it does not turn back; nought tells equals alone. -/
structure IsOrd {α : Type} (c : α → α → Int) : Prop where
  three : ∀ x y, c x y = -1 ∨ c x y = 0 ∨ c x y = 1
  anti : ∀ x y, c y x = - c x y
  trans : ∀ x y z, c x y ≤ 0 → c y z ≤ 0 → c x z ≤ 0
  zero : ∀ x y, c x y = 0 ↔ x = y

/-- Rows compared place by place, a beginning ahead. -/
def lexG {α : Type} (c : α → α → Int) : List α → List α → Int
  | [], [] => 0
  | [], _ :: _ => -1
  | _ :: _, [] => 1
  | x :: a, y :: b => if c x y = 0 then lexG c a b else c x y

/-- Numbers compared. -/
def sgn (x y : Int) : Int := if x < y then -1 else if y < x then 1 else 0
/-- Bytes compared. -/
def cB (x y : UInt8) : Int := sgn x.toNat y.toNat

theorem cB_ord : IsOrd cB where
  three x y := by
    unfold cB sgn
    split
    · simp
    · split <;> simp
  anti x y := by unfold cB sgn; split <;> split <;> (try split) <;> omega
  trans x y z := by unfold cB sgn; split <;> split <;> (try split) <;> (try split) <;> omega
  zero x y := by
    constructor
    · intro h
      unfold cB sgn at h
      have : x.toNat = y.toNat := by
        split at h
        · omega
        · split at h <;> omega
      exact UInt8.toNat_inj.1 this
    · rintro rfl; simp [cB, sgn]

theorem lexG_self {α : Type} {c : α → α → Int} (h : IsOrd c) (a : List α) : lexG c a a = 0 := by
  induction a with
  | nil => rfl
  | cons x a ih => rw [lexG, if_pos ((h.zero x x).2 rfl)]; exact ih

theorem lexG_ord {α : Type} {c : α → α → Int} (h : IsOrd c) : IsOrd (lexG c) where
  three a b := by
    induction a generalizing b with
    | nil => cases b <;> simp [lexG]
    | cons x a ih =>
      cases b with
      | nil => simp [lexG]
      | cons y b =>
        rw [lexG]
        split
        · exact ih b
        · exact h.three x y
  anti a b := by
    induction a generalizing b with
    | nil => cases b <;> simp [lexG]
    | cons x a ih =>
      cases b with
      | nil => simp [lexG]
      | cons y b =>
        rw [lexG, lexG, h.anti x y]
        by_cases e : c x y = 0
        · rw [if_pos e, if_pos (by omega)]; exact ih b
        · rw [if_neg e, if_neg (by omega)]
  trans a b d := by
    induction a generalizing b d with
    | nil => cases b <;> cases d <;> simp [lexG]
    | cons x a ih =>
      cases b with
      | nil => simp [lexG]
      | cons y b =>
        cases d with
        | nil =>
          intro _ h2; simp [lexG] at h2
        | cons z d =>
          rw [lexG, lexG, lexG]
          have a1 := h.anti x y
          have a2 := h.anti y z
          have a3 := h.anti x z
          have t1 := h.trans x y z
          by_cases e1 : c x y = 0
          · have := (h.zero x y).1 e1
            subst this
            rw [if_pos e1]
            by_cases e2 : c x z = 0
            · rw [if_pos e2, if_pos e2]; exact ih b d
            · rw [if_neg e2, if_neg e2]; intros; assumption
          · rw [if_neg e1]
            by_cases e2 : c y z = 0
            · have := (h.zero y z).1 e2
              subst this
              rw [if_neg e1]; intros; assumption
            · rw [if_neg e2]
              intro u v
              have e3 : c x z ≠ 0 := by
                intro e3
                have := (h.zero x z).1 e3
                subst this
                omega
              rw [if_neg e3]
              exact t1 u v
  zero a b := by
    induction a generalizing b with
    | nil => cases b <;> simp [lexG]
    | cons x a ih =>
      cases b with
      | nil => simp [lexG]
      | cons y b =>
        rw [lexG]
        by_cases e : c x y = 0
        · have := (h.zero x y).1 e
          subst this
          rw [if_pos e, ih b]; simp
        · rw [if_neg e]
          constructor
          · intro k; exact absurd k e
          · intro k
            simp at k
            exact absurd ((h.zero x y).2 k.1) e

/-- A longer row comes behind its beginning. -/
theorem lexG_more {α : Type} {c : α → α → Int} (h : IsOrd c) (a b : List α) (hb : b ≠ []) : lexG c a (a ++ b) = -1 := by
  induction a with
  | nil => cases b with
    | nil => exact absurd rfl hb
    | cons y b => rfl
  | cons x a ih => rw [List.cons_append, lexG, if_pos ((h.zero x x).2 rfl)]; exact ih

/-- What lies between a beginning and a row that begins with it begins with it too. -/
theorem lexG_between {α : Type} {c : α → α → Int} (h : IsOrd c) : ∀ (a m j : List α), a <+: m → lexG c a j ≤ 0 → lexG c j m ≤ 0 → a <+: j := by
  intro a
  induction a with
  | nil => intro m j _ _ _; exact List.nil_prefix
  | cons x a ih =>
    intro m j hp h1 h2
    obtain ⟨t, rfl⟩ := hp
    cases j with
    | nil => simp [lexG] at h1
    | cons y j =>
      rw [List.cons_append] at h2
      rw [lexG] at h1 h2
      have a1 := h.anti x y
      by_cases e : c x y = 0
      · have := (h.zero x y).1 e
        subst this
        rw [if_pos e] at h1 h2
        have := ih (a ++ t) j (List.prefix_append _ _) h1 h2
        exact List.prefix_cons_inj x |>.2 this
      · rw [if_neg e] at h1
        rw [if_neg (by omega)] at h2
        omega

/-- One place further: at the place k both rows are alike so far. -/
theorem lexG_drop {α : Type} {c : α → α → Int} (_ : IsOrd c) (a b : List α) (k : Nat) (ha : k < a.length) (hb : k < b.length) :
    lexG c (a.drop k) (b.drop k) = if c a[k] b[k] = 0 then lexG c (a.drop (k + 1)) (b.drop (k + 1)) else c a[k] b[k] := by
  rw [List.drop_eq_getElem_cons ha, List.drop_eq_getElem_cons hb, lexG]

/-- One row is at its end: the lengths decide. -/
theorem lexG_end {α : Type} {c : α → α → Int} (a b : List α) (k : Nat) (h : k = a.length ∨ k = b.length) (ha : k ≤ a.length) (hb : k ≤ b.length) :
    lexG c (a.drop k) (b.drop k) = sgn a.length b.length := by
  unfold sgn
  rcases Nat.lt_trichotomy a.length b.length with g | g | g
  · rw [if_pos (by omega)]
    have : k = a.length := by omega
    subst this
    rw [List.drop_of_length_le (Nat.le_refl _), List.drop_eq_getElem_cons g]; rfl
  · rw [if_neg (by omega), if_neg (by omega)]
    have : k = a.length := by omega
    subst this
    rw [List.drop_of_length_le (Nat.le_refl _), List.drop_of_length_le (by omega)]; rfl
  · rw [if_neg (by omega), if_pos (by omega)]
    have : k = b.length := by omega
    subst this
    rw [List.drop_of_length_le (Nat.le_refl b.length), List.drop_eq_getElem_cons g]; rfl

end Go.Proofs.YtnjgdfmldjgloaaGreat.Pl

/- The labels of a name, names without their first labels, names folded: plain facts on bytes, with no word of the program. -/
namespace Go.Proofs.YtnjgdfmldjgloaaGreat.Pl

/-- Labels, each behind its length. -/
def pre (ls : List (List UInt8)) : List UInt8 := ls.flatMap (fun x => UInt8.ofNat x.length :: x)
/-- The name of labels. -/
def enc (ls : List (List UInt8)) : List UInt8 := pre ls ++ [0]
def GoodL (ls : List (List UInt8)) : Prop := ∀ x ∈ ls, 1 ≤ x.length ∧ x.length ≤ 63
/-- Where the label i begins. -/
def pos (ls : List (List UInt8)) (i : Nat) : Nat := (pre (ls.take i)).length

theorem pre_nil : pre [] = [] := rfl
theorem pre_cons (x : List UInt8) (ls : List (List UInt8)) : pre (x :: ls) = UInt8.ofNat x.length :: (x ++ pre ls) := by simp [pre]
theorem pre_append (a b : List (List UInt8)) : pre (a ++ b) = pre a ++ pre b := by simp [pre]
theorem enc_cons (x : List UInt8) (ls : List (List UInt8)) : enc (x :: ls) = UInt8.ofNat x.length :: (x ++ enc ls) := by simp [enc, pre_cons]
theorem enc_nil : enc [] = [0] := rfl
theorem GoodL.tail {x : List UInt8} {ls : List (List UInt8)} (h : GoodL (x :: ls)) : GoodL ls := fun y hy => h y (List.mem_cons_of_mem _ hy)
theorem GoodL.head {x : List UInt8} {ls : List (List UInt8)} (h : GoodL (x :: ls)) : 1 ≤ x.length ∧ x.length ≤ 63 := h x List.mem_cons_self
theorem GoodL.drop {ls : List (List UInt8)} (h : GoodL ls) (i : Nat) : GoodL (ls.drop i) := fun y hy => h y (List.mem_of_mem_drop hy)
theorem len_byte {n : Nat} (h : n ≤ 63) : (UInt8.ofNat n).toNat = n := toNat_of (by omega)

theorem enc_nm {ls : List (List UInt8)} (h : GoodL ls) : nmS 0 (enc ls) = some ls.length := by
  induction ls with
  | nil => simp [enc, pre, nmS]
  | cons x ls ih =>
    have hx := h.head
    rw [enc_cons, nmS, len_byte hx.2, if_neg (by omega), if_neg (by omega), nmS_drop, List.drop_left, ih h.tail]
    simp

theorem nm_enc : ∀ (n : Nat) (l : List UInt8) (k : Nat), l.length ≤ n → nmS 0 l = some k → ∃ ls, l = enc ls ∧ GoodL ls ∧ ls.length = k := by
  intro n
  induction n with
  | zero =>
    intro l k hl h
    have : l = [] := List.eq_nil_of_length_eq_zero (by omega)
    subst this
    simp [nmS] at h
  | succ n ih =>
    intro l k hl h
    match l with
    | [] => simp [nmS] at h
    | c :: r =>
      by_cases h0 : c.toNat = 0
      · rw [nmS, if_pos h0] at h
        split at h
        · rename_i hr
          have hr' := List.eq_nil_of_length_eq_zero hr
          subst hr'
          have hc : c = 0 := UInt8.toNat_inj.1 h0
          subst hc
          simp only [Option.some.injEq] at h
          exact ⟨[], rfl, fun x hx => by simp at hx, by simpa using h⟩
        · simp at h
      · obtain ⟨h63, hlen, _⟩ := nmS_label (c := c) (r := r) (by rw [h]; rfl) h0
        rw [nmS, if_neg h0, if_neg (by omega), nmS_drop] at h
        obtain ⟨j, hj, hk⟩ := Option.map_eq_some_iff.1 h
        obtain ⟨ls, e1, e2, e3⟩ := ih (r.drop c.toNat) j (by simp at hl ⊢; omega) hj
        have hx : (r.take c.toNat).length = c.toNat := by simp; omega
        refine ⟨r.take c.toNat :: ls, ?_, ?_, by simp; omega⟩
        · rw [enc_cons, ← e1, List.take_append_drop, hx]
          congr 1
          exact UInt8.toNat_inj.1 (by rw [len_byte h63])
        · intro y hy
          rcases List.mem_cons.1 hy with rfl | hy
          · rw [hx]; omega
          · exact e2 y hy

/-- The labels that a row of bytes begins with. -/
def labsF : Nat → List UInt8 → List (List UInt8)
  | 0, _ => []
  | _ + 1, [] => []
  | f + 1, c :: r => if c.toNat = 0 then [] else r.take c.toNat :: labsF f (r.drop c.toNat)
/-- The labels of a name; of what is no name none. -/
def labs (l : List UInt8) : List (List UInt8) := if isName l then labsF l.length l else []

theorem labsF_enc {ls : List (List UInt8)} (h : GoodL ls) : ∀ f, (enc ls).length ≤ f → labsF f (enc ls) = ls := by
  induction ls with
  | nil =>
    intro f hf
    match f with
    | 0 => simp [enc] at hf
    | f + 1 => simp [enc, pre, labsF]
  | cons x ls ih =>
    intro f hf
    match f with
    | 0 => simp [enc] at hf
    | f + 1 =>
      have hx := h.head
      rw [enc_cons] at hf ⊢
      rw [labsF, len_byte hx.2, if_neg (by omega), List.take_left, List.drop_left, ih h.tail f (by simp at hf ⊢; omega)]

theorem name_enc {ls : List (List UInt8)} (h : GoodL ls) (hl : (enc ls).length ≤ 255) : isName (enc ls) = true ∧ cnt (enc ls) = ls.length ∧ labs (enc ls) = ls := by
  have hn : nm (enc ls) = some ls.length := by rw [nm_short hl, enc_nm h]
  have h1 : isName (enc ls) = true := by unfold isName; rw [hn]; rfl
  refine ⟨h1, by unfold cnt; rw [hn]; rfl, ?_⟩
  unfold labs
  rw [if_pos h1]
  exact labsF_enc h _ (Nat.le_refl _)

theorem enc_of {l : List UInt8} (h : isName l = true) : l = enc (labs l) ∧ GoodL (labs l) ∧ cnt l = (labs l).length ∧ l.length ≤ 255 := by
  obtain ⟨h1, h2⟩ := name_some h
  obtain ⟨k, hk⟩ := Option.isSome_iff_exists.1 h2
  obtain ⟨ls, rfl, e2, e3⟩ := nm_enc _ _ _ (Nat.le_refl _) hk
  obtain ⟨g1, g2, g3⟩ := name_enc e2 h1
  rw [g3]
  exact ⟨rfl, e2, g2, h1⟩

theorem labs_none {l : List UInt8} (h : isName l = false) : labs l = [] := by unfold labs; rw [h]; rfl

theorem pos_zero (ls : List (List UInt8)) : pos ls 0 = 0 := by simp [pos, pre]
theorem pos_succ (ls : List (List UInt8)) (i : Nat) (h : i < ls.length) : pos ls (i + 1) = pos ls i + 1 + ls[i].length := by
  unfold pos
  rw [List.take_succ_eq_append_getElem h, pre_append]
  simp [pre]
  omega
theorem enc_split (ls : List (List UInt8)) (i : Nat) : enc ls = pre (ls.take i) ++ enc (ls.drop i) := by
  unfold enc
  rw [← List.append_assoc, ← pre_append, List.take_append_drop]
/-- A name without its first labels. -/
theorem enc_drop (ls : List (List UInt8)) (i : Nat) : (enc ls).drop (pos ls i) = enc (ls.drop i) := by
  rw [enc_split ls i]; unfold pos; rw [List.drop_left]
theorem pos_lt (ls : List (List UInt8)) (i : Nat) : pos ls i < (enc ls).length := by
  rw [enc_split ls i]; unfold pos; simp [enc]
theorem pos_at (ls : List (List UInt8)) (i : Nat) (h : i < ls.length) : (enc ls)[pos ls i]'(pos_lt ls i) = UInt8.ofNat ls[i].length := by
  have h1 := enc_drop ls i
  rw [List.drop_eq_getElem_cons (pos_lt ls i), List.drop_eq_getElem_cons h, enc_cons] at h1
  exact (List.cons.inj h1).1
theorem pos_end (ls : List (List UInt8)) (i : Nat) (h : ls.length ≤ i) : (enc ls)[pos ls i]'(pos_lt ls i) = 0 := by
  have h1 := enc_drop ls i
  rw [List.drop_eq_getElem_cons (pos_lt ls i), List.drop_of_length_le h, enc_nil] at h1
  exact (List.cons.inj h1).1
theorem pos_last (ls : List (List UInt8)) : pos ls ls.length + 1 = (enc ls).length := by simp [pos, enc]
/-- The bytes between two places. -/
theorem pos_label (ls : List (List UInt8)) (i : Nat) (h : i < ls.length) : ((enc ls).drop (pos ls i + 1)).take (pos ls (i + 1) - (pos ls i + 1)) = ls[i] := by
  have h1 := enc_drop ls i
  rw [List.drop_eq_getElem_cons h, enc_cons] at h1
  rw [← List.drop_drop, h1, pos_succ ls i h, List.drop_succ_cons, List.drop_zero, show pos ls i + 1 + ls[i].length - (pos ls i + 1) = ls[i].length from by omega, List.take_left]

/-- The places that a walk over the labels finds. -/
theorem places_pos {l : List UInt8} {qs : List Nat} (hn : isName l = true) (h : Places l qs) : qs.length = (labs l).length + 1 ∧ ∀ i, i ≤ (labs l).length → qs.getD i 0 = pos (labs l) i := by
  obtain ⟨e1, e2, e3, e4⟩ := enc_of hn
  refine ⟨by rw [h.2.1, e3], fun i => ?_⟩
  induction i with
  | zero =>
    intro _
    have h0 := h.1.1
    rw [pos_zero]
    have hq : 0 < qs.length := by rw [h.2.1]; omega
    match qs, hq with
    | q :: r, _ => simpa using h0
  | succ i ih =>
    intro hi
    have hp := ih (by omega)
    obtain ⟨h1, h2, h3⟩ := h.1.2 i (by rw [h.2.1, e3]; omega)
    rw [h3, hp, pos_succ _ i (by omega)]
    congr 1
    have hl : pos (labs l) i < l.length := by rw [← hp]; exact h1
    have hg : l.getD (pos (labs l) i) 0 = UInt8.ofNat (labs l)[i].length := by
      rw [← pos_at (labs l) i (by omega)]
      rw [List.getD_eq_getElem?_getD, List.getElem?_eq_getElem hl]
      simp only [Option.getD_some]
      congr 1
    rw [hg, len_byte (e2 _ (List.getElem_mem _)).2]

/- Folding. -/

/-- A great letter made small. -/
def fb (b : UInt8) : UInt8 := if 65 ≤ b.toNat ∧ b.toNat ≤ 90 then UInt8.ofNat (b.toNat + 32) else b
def foldL (l : List UInt8) : List UInt8 := l.map fb

theorem fb_nat (b : UInt8) : (fb b).toNat = if 65 ≤ b.toNat ∧ b.toNat ≤ 90 then b.toNat + 32 else b.toNat := by
  unfold fb; split
  · rw [toNat_of (by omega)]
  · rfl
theorem fb_small {b : UInt8} (h : b.toNat ≤ 63) : fb b = b := by unfold fb; rw [if_neg (by omega)]
theorem fb_twice (b : UInt8) : fb (fb b) = fb b := by
  have h := fb_nat b
  apply UInt8.toNat_inj.1
  rw [fb_nat (fb b)]
  split at h <;> split <;> omega
theorem fold_twice (l : List UInt8) : foldL (foldL l) = foldL l := by unfold foldL; simp [fb_twice]
theorem fold_len (l : List UInt8) : (foldL l).length = l.length := by simp [foldL]

theorem nmS_fold (l : List UInt8) : ∀ k, nmS k (foldL l) = nmS k l := by
  induction l with
  | nil => intro k; rfl
  | cons c r ih =>
    intro k
    have hc := fb_nat c
    show nmS k (fb c :: foldL r) = nmS k (c :: r)
    match k with
    | k + 1 => rw [nmS, nmS]; exact ih k
    | 0 =>
      rw [nmS, nmS, fold_len]
      by_cases h0 : c.toNat = 0
      · rw [if_pos (by split at hc <;> omega), if_pos h0]
      · rw [if_neg (by split at hc <;> omega), if_neg h0]
        by_cases h6 : 63 < c.toNat
        · rw [if_pos (by split at hc <;> omega), if_pos h6]
        · rw [if_neg (by split at hc <;> omega), if_neg h6, fb_small (by omega), ih]

theorem name_fold (l : List UInt8) : isName (foldL l) = isName l := by unfold isName nm; rw [nmS_fold, fold_len]
theorem fold_pre {ls : List (List UInt8)} (h : GoodL ls) : foldL (pre ls) = pre (ls.map foldL) := by
  induction ls with
  | nil => rfl
  | cons x ls ih =>
    have hx := h.head
    have := ih h.tail
    rw [List.map_cons, pre_cons, pre_cons, fold_len, ← this]
    unfold foldL
    rw [List.map_cons, List.map_append, fb_small (by rw [len_byte hx.2]; omega)]
theorem fold_enc {ls : List (List UInt8)} (h : GoodL ls) : foldL (enc ls) = enc (ls.map foldL) := by
  unfold enc
  rw [← fold_pre h]
  unfold foldL
  rw [List.map_append]
  rfl
theorem good_fold {ls : List (List UInt8)} (h : GoodL ls) : GoodL (ls.map foldL) := by
  intro x hx
  obtain ⟨y, hy, rfl⟩ := List.mem_map.1 hx
  rw [fold_len]; exact h y hy

/-- The labels of a name folded, the last one first. -/
def fl (l : List UInt8) : List (List UInt8) := ((labs l).map foldL).reverse

theorem labs_fold (l : List UInt8) : labs (foldL l) = (labs l).map foldL := by
  cases h : isName l with
  | false => rw [labs_none h, labs_none (by rw [name_fold]; exact h)]; rfl
  | true =>
    obtain ⟨e1, e2, e3, e4⟩ := enc_of h
    have e5 : foldL l = enc ((labs l).map foldL) := by rw [← fold_enc e2, ← e1]
    have := name_enc (good_fold e2) (by rw [← e5, fold_len]; exact e4)
    rw [e5, this.2.2]
theorem fl_fold (l : List UInt8) : fl (foldL l) = fl l := by
  unfold fl; rw [labs_fold]; simp [fold_twice]
theorem fl_len (l : List UInt8) : (fl l).length = (labs l).length := by simp [fl]

theorem enc_inj {a b : List (List UInt8)} (ha : GoodL a) (hb : GoodL b) (h : enc a = enc b) : a = b := by
  rw [← labsF_enc ha _ (Nat.le_refl _), h]; exact labsF_enc hb _ (Nat.le_refl _)

theorem fold_inj {a b : List UInt8} (ha : isName a = true) (hb : isName b = true) : foldL a = foldL b ↔ fl a = fl b := by
  obtain ⟨a1, a2, _, _⟩ := enc_of ha
  obtain ⟨b1, b2, _, _⟩ := enc_of hb
  have ea : foldL a = enc ((labs a).map foldL) := by rw [← fold_enc a2, ← a1]
  have eb : foldL b = enc ((labs b).map foldL) := by rw [← fold_enc b2, ← b1]
  rw [ea, eb]
  unfold fl
  rw [List.reverse_inj]
  exact ⟨enc_inj (good_fold a2) (good_fold b2), fun h => by rw [h]⟩

/-- The order of bytes folded. -/
def ord (a b : List UInt8) : Int := lexG cB (foldL a) (foldL b)
/-- The order of names. -/
def cmpN (a b : List UInt8) : Int := lexG (lexG cB) (fl a) (fl b)
/-- Is a the same as b? -/
def sameB (a b : List UInt8) : Bool := isName a && isName b && decide (foldL a = foldL b)
/-- A name's last k labels. -/
def lastN (l : List UInt8) (k : Nat) : List UInt8 := enc ((labs l).drop ((labs l).length - k))
/-- Is a above b? -/
def aboveB (a b : List UInt8) : Bool := isName a && isName b && decide ((labs a).length ≤ (labs b).length) && decide (foldL a = foldL (lastN b (labs a).length))

theorem ord_ord : IsOrd (lexG cB) := lexG_ord cB_ord
theorem cmp_ord : IsOrd (lexG (lexG cB)) := lexG_ord ord_ord
theorem ord_zero (a b : List UInt8) : ord a b = 0 ↔ foldL a = foldL b := ord_ord.zero _ _
theorem cmp_zero (a b : List UInt8) : cmpN a b = 0 ↔ fl a = fl b := cmp_ord.zero _ _
theorem same_iff {a b : List UInt8} : sameB a b = true ↔ isName a = true ∧ isName b = true ∧ fl a = fl b := by
  unfold sameB
  constructor
  · intro h
    simp at h
    exact ⟨h.1.1, h.1.2, (fold_inj h.1.1 h.1.2).1 h.2⟩
  · intro ⟨h1, h2, h3⟩
    simp [h1, h2]
    exact (fold_inj h1 h2).2 h3

theorem pos_le (ls : List (List UInt8)) (i : Nat) : (enc (ls.drop i)).length ≤ (enc ls).length := by
  rw [← enc_drop]; simp

theorem last_name {l : List UInt8} (h : isName l = true) (k : Nat) (hk : k ≤ (labs l).length) : isName (lastN l k) = true ∧ labs (lastN l k) = (labs l).drop ((labs l).length - k) ∧ cnt (lastN l k) = k := by
  obtain ⟨e1, e2, e3, e4⟩ := enc_of h
  have := name_enc (e2.drop ((labs l).length - k)) (by
    have := pos_le (labs l) ((labs l).length - k)
    rw [← e1] at this
    omega)
  refine ⟨this.1, this.2.2, ?_⟩
  unfold lastN
  rw [this.2.1]
  simp
  omega

theorem fl_last {l : List UInt8} (h : isName l = true) (k : Nat) (hk : k ≤ (labs l).length) : fl (lastN l k) = (fl l).take k := by
  unfold fl
  rw [(last_name h k hk).2.1, List.map_drop, List.reverse_drop]
  simp
  congr 1
  omega

theorem above_iff {a b : List UInt8} : aboveB a b = true ↔ isName a = true ∧ isName b = true ∧ fl a <+: fl b := by
  unfold aboveB
  constructor
  · intro h
    simp at h
    obtain ⟨⟨⟨h1, h2⟩, h3⟩, h4⟩ := h
    refine ⟨h1, h2, ?_⟩
    have h5 := (fold_inj h1 (last_name h2 _ h3).1).1 h4
    rw [fl_last h2 _ h3] at h5
    rw [h5]
    exact List.take_prefix _ _
  · intro ⟨h1, h2, h3⟩
    have h4 : (labs a).length ≤ (labs b).length := by rw [← fl_len, ← fl_len]; exact h3.length_le
    simp [h1, h2, h4]
    refine (fold_inj h1 (last_name h2 _ h4).1).2 ?_
    rw [fl_last h2 _ h4]
    obtain ⟨t, ht⟩ := h3
    rw [← ht, ← fl_len, List.take_left]

end Go.Proofs.YtnjgdfmldjgloaaGreat.Pl

/- What foldByte, the library's Compare and order give, for every argument. -/
namespace Go.Proofs.YtnjgdfmldjgloaaGreat
open Go.RowKit
open Pl

theorem foldByte_any (b : UInt8) (w : World) :
    Calls Tryz.prog 68 #[.int .u8 (b.toNat : Int)] w fun e w' => e = .returned (.int .u8 ((fb b).toNat : Int)) ∧ w' = w := by
  have hb := b.toNat_lt
  have hf := fb_nat b
  by_cases h1 : 65 ≤ b.toNat
  · by_cases h2 : b.toNat ≤ 90
    · rw [if_pos ⟨h1, h2⟩] at hf
      rw [hf]
      clear hf
      go_enter Tryz.func68, Tryz.ntmps68
      go_wp2
      go_ret
      exact ⟨ret_int (by omega), rfl⟩
    · rw [if_neg (by omega)] at hf
      rw [hf]
      clear hf
      go_enter Tryz.func68, Tryz.ntmps68
      go_wp2
      go_ret
      exact ⟨rfl, rfl⟩
  · rw [if_neg (by omega)] at hf
    rw [hf]
    clear hf
    go_enter Tryz.func68, Tryz.ntmps68
    go_wp2
    go_ret
    exact ⟨rfl, rfl⟩

theorem nanI_any (x : Int) (w : World) :
    Calls Tryz.prog 103 #[.int .i64 x] w fun e w' => e = .returned (.bool false) ∧ w' = w := by
  go_enter Tryz.func103, Tryz.ntmps103
  go_wp2
  go_ret
  exact ⟨ret_bool (by simp), rfl⟩
theorem nanB_any (x : Int) (w : World) :
    Calls Tryz.prog 107 #[.int .u8 x] w fun e w' => e = .returned (.bool false) ∧ w' = w := by
  go_enter Tryz.func107, Tryz.ntmps107
  go_wp2
  go_ret
  exact ⟨ret_bool (by simp), rfl⟩

theorem cmpI_any (x y : Int) (w : World) :
    Calls Tryz.prog 91 #[.int .i64 x, .int .i64 y] w fun e w' => e = .returned (.int .i64 (sgn x y)) ∧ w' = w := by
  go_enter Tryz.func91, Tryz.ntmps91
  go_wp2_with (go_at_call 103; refine (nanI_any _ _).mono ?_; rintro e w' ⟨rfl, hw⟩; obtain rfl := hw.symm)
  all_goals go_ret
  all_goals refine ⟨ret_int ?_, rfl⟩
  all_goals unfold sgn
  all_goals simp_all
  all_goals omega
theorem cmpB_any (x y : Int) (w : World) :
    Calls Tryz.prog 102 #[.int .u8 x, .int .u8 y] w fun e w' => e = .returned (.int .i64 (sgn x y)) ∧ w' = w := by
  go_enter Tryz.func102, Tryz.ntmps102
  go_wp2_with (go_at_call 107; refine (nanB_any _ _).mono ?_; rintro e w' ⟨rfl, hw⟩; obtain rfl := hw.symm)
  all_goals go_ret
  all_goals refine ⟨ret_int ?_, rfl⟩
  all_goals unfold sgn
  all_goals simp_all
  all_goals omega

end Go.Proofs.YtnjgdfmldjgloaaGreat

/- What order gives: the order of two strings, folded, by their bytes. -/
namespace Go.Proofs.YtnjgdfmldjgloaaGreat
open Go.RowKit
open Pl

theorem drew_more {w u : World} {n : Nat} (h : ∃ m, u = w.drewN m) : ∃ m, u.drewN n = w.drewN m := by
  obtain ⟨m, rfl⟩ := h
  exact ⟨m + n, by simp⟩

theorem ord_start (a b : List UInt8) : ord a b = lexG cB ((foldL a).drop 0) ((foldL b).drop 0) := rfl
theorem ord_next {a b : List UInt8} {k : Nat} (h : ord a b = lexG cB ((foldL a).drop k) ((foldL b).drop k)) (ha : k < a.length) (hb : k < b.length) (hz : sgn ((fb a[k]).toNat : Int) ((fb b[k]).toNat : Int) = 0) :
    ord a b = lexG cB ((foldL a).drop (k + 1)) ((foldL b).drop (k + 1)) := by
  rw [h, lexG_drop cB_ord _ _ k (by rw [fold_len]; exact ha) (by rw [fold_len]; exact hb)]
  rw [if_pos (by simpa [foldL, cB] using hz)]
theorem ord_here {a b : List UInt8} {k : Nat} (h : ord a b = lexG cB ((foldL a).drop k) ((foldL b).drop k)) (ha : k < a.length) (hb : k < b.length) (hz : sgn ((fb a[k]).toNat : Int) ((fb b[k]).toNat : Int) ≠ 0) :
    sgn ((fb a[k]).toNat : Int) ((fb b[k]).toNat : Int) = ord a b := by
  rw [h, lexG_drop cB_ord _ _ k (by rw [fold_len]; exact ha) (by rw [fold_len]; exact hb)]
  rw [if_neg (by simpa [foldL, cB] using hz)]
  simp [foldL, cB]
theorem ord_end {a b : List UInt8} {k : Nat} (h : ord a b = lexG cB ((foldL a).drop k) ((foldL b).drop k)) (hk : k = a.length ∨ k = b.length) (ha : k ≤ a.length) (hb : k ≤ b.length) :
    sgn (a.length : Int) (b.length : Int) = ord a b := by
  rw [h, lexG_end _ _ k (by rw [fold_len, fold_len]; exact hk) (by rw [fold_len]; exact ha) (by rw [fold_len]; exact hb), fold_len, fold_len]

set_option maxRecDepth 20000 in
set_option maxHeartbeats 1000000 in
theorem order_any (a b : ByteArray) (w : World) (_ha : a.size ≤ maxLen) (hb : b.size ≤ maxLen) :
    Calls Tryz.prog 89 #[.string a, .string b] w fun e w' => e = .returned (.int .i64 (ord a.data.toList b.data.toList)) ∧ ∃ m, w' = w.drewN m := by
  unfold maxLen at _ha hb
  have hal := data_len a
  have hbl := data_len b
  obtain ⟨M, hM⟩ : ∃ M : Nat, (if b.size < a.size then (b.size : Int) else (a.size : Int)) = (M : Int) := by
    by_cases h : b.size < a.size
    · exact ⟨b.size, by rw [if_pos h]⟩
    · exact ⟨a.size, by rw [if_neg h]⟩
  have HM : Hid ((M = a.size ∨ M = b.size) ∧ M ≤ a.size ∧ M ≤ b.size) := by
    unfold Hid
    split at hM <;> omega
  have hMa : M ≤ a.size := HM.out.2.1
  go_enter Tryz.func89, Tryz.ntmps89
  go_wp2
  go_loopw [12] (fun i wr => ∃ (k : Nat), k ≤ M ∧ i = .int .i64 k ∧ Hid (∃ m, wr = w.drewN m) ∧ Hid (ord a.data.toList b.data.toList = lexG cB ((foldL a.data.toList).drop k) ((foldL b.data.toList).drop k))) (fun i _ => M - (intOf i).toNat)
  case atStart => exact ⟨0, Nat.zero_le _, rfl, ⟨0, rfl⟩, ord_start _ _⟩
  case round =>
    obtain ⟨k, hk, rfl, hdr, ho⟩ := hrel
    by_cases hkM : k < M
    · have hka : k < a.size := by have := HM.out; omega
      have hkb : k < b.size := by have := HM.out; omega
      have hka' : k < a.data.toList.length := by omega
      have hkb' : k < b.data.toList.length := by omega
      have hia := idx a k k rfl hka
      have hib := idx b k k rfl hkb
      have hkM2 : (k : Int) < (M : Int) := by omega
      by_cases hz : sgn ((fb a[k]).toNat : Int) ((fb b[k]).toNat : Int) = 0
      · have HN := ord_next ho.out hka' hkb' hz
        have HN2 : Hid (ord a.data.toList b.data.toList = lexG cB ((foldL a.data.toList).drop (k + 1)) ((foldL b.data.toList).drop (k + 1))) := HN
        clear HN
        go_wp2
        go_quiet (first
          | (go_at_call 68; go_must (exact Calls.quiet_of_same (foldByte_any _ _)))
          | (go_at_call 102; exact Calls.quiet_of_same (cmpB_any _ _ _)))
        go_wp2
        go_roundw
        case rel => exact ⟨k + 1, by omega, by go_num, drew_more hdr.out, HN2⟩
        case measure => simp [intOf]; omega
      · have HN := ord_here ho.out hka' hkb' hz
        have HN2 : Hid (sgn ((fb a[k]).toNat : Int) ((fb b[k]).toNat : Int) = ord a.data.toList b.data.toList) := HN
        have hz2 : (sgn ((fb a[k]).toNat : Int) ((fb b[k]).toNat : Int) != 0) = true := by simpa using hz
        clear HN hz
        go_wp2
        go_quiet (first
          | (go_at_call 68; go_must (exact Calls.quiet_of_same (foldByte_any _ _)))
          | (go_at_call 102; exact Calls.quiet_of_same (cmpB_any _ _ _)))
        go_wp2
        go_ret
        exact ⟨ret_int HN2.out, drew_more hdr.out⟩
    · have HE := ord_end ho.out (by have := HM.out; omega) (by have := HM.out; omega) (by have := HM.out; omega)
      rw [hal, hbl] at HE
      have HE2 : Hid (sgn (a.size : Int) (b.size : Int) = ord a.data.toList b.data.toList) := HE
      clear HE
      go_wp2_with (go_at_call 91; refine (cmpI_any _ _ _).mono ?_; rintro e w' ⟨rfl, hw⟩; obtain rfl := hw.symm)
      go_ret
      exact ⟨ret_int HE2.out, hdr.out⟩

end Go.Proofs.YtnjgdfmldjgloaaGreat

/- What the methods last and label of the places of labels give. -/
namespace Go.Proofs.YtnjgdfmldjgloaaGreat
open Go.RowKit
open Pl

/-- A block that holds the places of labels. -/
def PlAt (w : World) (b : Nat) (ls : List (List UInt8)) : Prop :=
  w.cell? ⟨b, 128, none⟩ = some (.int .i64 (ls.length : Int)) ∧ ∀ i, i ≤ ls.length → w.cell? ⟨b, i, none⟩ = some (.int .u8 (pos ls i : Nat))

set_option maxRecDepth 20000 in
set_option maxHeartbeats 1000000 in
theorem plLast_any (s t : ByteArray) (w : World) (b n k P : Nat) (hk : k ≤ n) (hn : n ≤ 127) (hc : w.cell? ⟨b, 128, none⟩ = some (.int .i64 (n : Int)))
    (hp : w.cell? ⟨b, n - k, none⟩ = some (.int .u8 (P : Int))) (hP : P ≤ s.size) (ht : t = s.extract P s.size) :
    Calls Tryz.prog 99 #[.pointer (some ⟨b, 0, none⟩), .string s, .int .i64 (k : Int)] w fun e w' => e = .returned (.string t) ∧ ∃ m, w' = w.drewN m := by
  have hcut : ∀ u : World, (Instr.slice 9 (.string s) (some (.int .u8 (P : Int))) none none).run Tryz.prog u = .ok (.string t) u := fun u => by
    have := run_slice_string_l (P := Tryz.prog) (w := u) (t := 9) (s := s) Tryz.underlying9 .u8 (P : Int) (by omega) (by omega)
    rw [this, ht]; rfl
  obtain ⟨j, hj⟩ : ∃ j, j = n - k := ⟨_, rfl⟩
  rw [← hj] at hp
  have hjn : (n : Int) - (k : Int) = (j : Int) := by omega
  have hj2 : (j : Int) < 128 := by omega
  clear ht hj
  go_enter Tryz.func99, Tryz.ntmps99
  go_wp2
  go_quiet (fail)
  go_wp2
  go_ret
  exact ⟨rfl, _, rfl⟩

set_option maxRecDepth 20000 in
set_option maxHeartbeats 1000000 in
theorem plLabel_any (s t : ByteArray) (w : World) (b n k P Q : Nat) (hk1 : 1 ≤ k) (hk : k ≤ n) (hn : n ≤ 127) (hc : w.cell? ⟨b, 128, none⟩ = some (.int .i64 (n : Int)))
    (hp : w.cell? ⟨b, n - k, none⟩ = some (.int .u8 (P : Int))) (hq : w.cell? ⟨b, n - k + 1, none⟩ = some (.int .u8 (Q : Int))) (hPQ : P + 1 ≤ Q) (hQ : Q ≤ s.size) (hQ2 : Q ≤ 255) (ht : t = s.extract (P + 1) Q) :
    Calls Tryz.prog 90 #[.pointer (some ⟨b, 0, none⟩), .string s, .int .i64 (k : Int)] w fun e w' => e = .returned (.string t) ∧ ∃ m, w' = w.drewN m := by
  have hcut : ∀ u : World, (Instr.slice 9 (.string s) (some (.int .u8 ((P : Int) + 1))) (some (.int .u8 (Q : Int))) none).run Tryz.prog u = .ok (.string t) u := fun u => by
    have := run_slice_string (P := Tryz.prog) u 9 s .u8 .u8 ((P : Int) + 1) (Q : Int) Tryz.underlying9 (by omega) (by omega) (by omega)
    rw [this, ht]; rfl
  obtain ⟨j, hj⟩ : ∃ j, j = n - k := ⟨_, rfl⟩
  rw [← hj] at hp hq
  have hjn : (n : Int) - (k : Int) = (j : Int) := by omega
  have hj2 : (j : Int) < 128 := by omega
  have hj3 : (j : Int) + 1 < 128 := by omega
  clear ht hj
  go_enter Tryz.func90, Tryz.ntmps90
  go_wp2
  go_quiet (fail)
  go_wp2
  go_ret
  exact ⟨rfl, _, rfl⟩

end Go.Proofs.YtnjgdfmldjgloaaGreat

/- What gather gives: the places of a name's labels. -/
namespace Go.Proofs.YtnjgdfmldjgloaaGreat
open Go.RowKit
open Pl

/-- The cells of places ahead of the walk. -/
def Z47 : Array Value := Array.replicate 128 (.int .u8 0) ++ #[.int .i64 0]
theorem info47 : (Tryz.prog.info? 127).map (fun i => (i.zero, i.size)) = some (some (.agg Z47), 129) := by kernel_rfl

/-- The cells of places when c labels are behind. -/
def Fill (ls : List (List UInt8)) (c : Nat) (C : Array Value) : Prop :=
  C.size = 129 ∧ C[128]? = some (.int .i64 (c : Int)) ∧ (∀ i, i ≤ c → C[i]? = some (.int .u8 (pos ls i : Nat))) ∧ C.all (·.oneCell') = true

theorem fill_start (ls : List (List UInt8)) : Fill ls 0 Z47 := by
  refine ⟨by kernel_rfl, by kernel_rfl, fun i hi => ?_, by kernel_rfl⟩
  obtain rfl : i = 0 := by omega
  rw [pos_zero]
  kernel_rfl

theorem all_set {C : Array Value} (h : C.all (·.oneCell') = true) (i : Nat) (v : Value) (hv : v.oneCell' = true) : (C.setIfInBounds i v).all (·.oneCell') = true := by
  rw [Array.all_eq_true] at h ⊢
  intro j hj
  rw [Array.getElem_setIfInBounds]
  split
  · exact hv
  · exact h j (by simpa using hj)

theorem fill_next {ls : List (List UInt8)} {c : Nat} {C : Array Value} (h : Fill ls c C) (hc : c < 127) : Fill ls (c + 1) ((C.setIfInBounds 128 (.int .i64 ((c : Int) + 1))).setIfInBounds (c + 1) (.int .u8 (pos ls (c + 1) : Nat))) := by
  obtain ⟨h1, h2, h3, h4⟩ := h
  refine ⟨by simp [h1], ?_, fun i hi => ?_, all_set (all_set h4 _ _ rfl) _ _ rfl⟩
  · rw [Array.getElem?_setIfInBounds_ne (by omega), Array.getElem?_setIfInBounds_self_of_lt (by omega)]
    simp
  · by_cases e : i = c + 1
    · subst e
      rw [Array.getElem?_setIfInBounds_self_of_lt (by simp [h1]; omega)]
    · rw [Array.getElem?_setIfInBounds_ne (by omega), Array.getElem?_setIfInBounds_ne (by omega)]
      exact h3 i (by omega)

/-- How many labels a name may have. -/
theorem labs_few {ls : List (List UInt8)} (h : GoodL ls) : 2 * ls.length + 1 ≤ (enc ls).length := by
  induction ls with
  | nil => simp [enc]
  | cons x ls ih =>
    have h1 := h.head
    have h2 := ih h.tail
    rw [enc_cons]
    simp
    omega

theorem load_pl {w : World} {g : Nat} {C : Array Value} (hg : w.heap[g]? = some (.cells C 127 (0, 0))) (hC : C.size = 129) : (Instr.loadAt 127 (.pointer (some ⟨g, 0, none⟩))).run Tryz.prog w = .ok (.agg C) w := by
  simp only [Instr.loadAt, Instr.sureAddr, Sem.run_bind, Sem.run_pure, Result.andThen]
  exact run_loadVar_row _ _ 127 127 C (0, 0) _ hg Tryz.underlying127 rfl (by rw [hC]; exact (zero_of_info info47).2)
theorem store_pl {w : World} {g : Nat} {Z C : Array Value} (hg : w.heap[g]? = some (.cells Z 127 (0, 0))) (hZ : Z.size = 129) (hC : C.size = 129) (h1 : C.all (·.oneCell') = true) : (Instr.storeAt 127 (.pointer (some ⟨g, 0, none⟩)) (.agg C)).run Tryz.prog w = .ok () (w.setRow g C) := by
  simp only [Instr.storeAt, Instr.sureAddr, Sem.run_bind, Sem.run_pure, Result.andThen]
  exact run_storeVar_row _ _ 127 127 Z C hg (by rw [hC]; exact (zero_of_info info47).2) (by omega) h1

theorem results_cell {fn : Func} {p : Tmp} {ty : TypeId} (h : fn.results = #[.cell p ty]) (tmps : Array Value) (P : Program) (w : World) :
    (results fn tmps).run P w = ((asAddr (tmps.getD p undef)).run P w).andThen fun a w1 => (loadVar ty a).run P w1 := by
  simp only [results, h]
  simp [Sem.run_bind, Result.andThen]

/-- All the places out of their block. -/
theorem wpList_loadPl (w : World) {ops : Array Oper} {rest : List Oper} {o : Oper} {a : Act} {Q : Exit → Act → World → Prop} (hgd : o.guard = none) (x : Operand)
    (ho : o.op = .load 127 x) (g : Nat) (C : Array Value) (hx : a.eval x = .pointer (some ⟨g, 0, none⟩)) (hg : w.heap[g]? = some (.cells C 127 (0, 0))) (hC : C.size = 129)
    (h : wpList Tryz.prog ops Q rest (a.put o.dst (.agg C)) w) : wpList Tryz.prog ops Q (o :: rest) a w := by
  refine wpList_plain hgd fun K hK => ?_
  have hr := load_pl hg hC
  unfold Oper.wp execOp
  simp only [ho, hx, Sem.run_bind, hr, Result.andThen_ok, Sem.run_pure]
  exact hK _ _ h

/-- All the places into a block. -/
theorem wpList_storePl (w : World) {ops : Array Oper} {rest : List Oper} {o : Oper} {a : Act} {Q : Exit → Act → World → Prop} (hgd : o.guard = none) (x y : Operand)
    (ho : o.op = .store 127 x y) (g : Nat) (Z C : Array Value) (hx : a.eval x = .pointer (some ⟨g, 0, none⟩)) (hy : a.eval y = .agg C) (hg : w.heap[g]? = some (.cells Z 127 (0, 0))) (hZ : Z.size = 129) (hC : C.size = 129) (h1 : C.all (·.oneCell') = true)
    (h : ∀ w', w'.heap[g]? = some (.cells C 127 (0, 0)) → w.grownBy w' (some g) → w'.heap.size = w.heap.size → wpList Tryz.prog ops Q rest (a.put o.dst undef) w') : wpList Tryz.prog ops Q (o :: rest) a w := by
  refine wpList_plain hgd fun K hK => ?_
  have hr := store_pl hg hZ hC h1
  unfold Oper.wp execOp
  simp only [ho, hx, hy, Sem.run_bind, hr, Result.andThen_ok, Sem.run_pure]
  exact hK _ _ (h _ (setRow_heap _ _ Z _ 127 (0, 0) hg) ⟨rfl, rfl, rfl, by simp, fun k _ hne => setRow_other _ _ _ _ (fun e => hne (by rw [e]))⟩ (by simp))

set_option maxRecDepth 20000 in
set_option maxHeartbeats 1000000 in
theorem gather_any (s : ByteArray) (w : World) (h : isName s.data.toList = true) :
    Calls Tryz.prog 88 #[.string s] w fun e w' => ∃ C : Array Value, e = .returned (.agg C) ∧ Below w.heap.size w w' ∧ Fill (labs s.data.toList) (labs s.data.toList).length C := by
  obtain ⟨e1, e2, e3, e4⟩ := enc_of h
  have hfew := labs_few e2
  rw [← e1] at hfew
  have hl := data_len s
  obtain ⟨ls, hls⟩ : ∃ ls, ls = labs s.data.toList := ⟨_, rfl⟩
  rw [← hls] at e1 e2 e3 hfew ⊢
  obtain ⟨hz, hsz⟩ := zero_of_info info47
  have HSZ : Hid ((Tryz.prog.info? 127).map (·.size) = some 129) := hsz
  obtain ⟨Z, hZ⟩ : ∃ Z, Z = Z47 := ⟨_, rfl⟩
  rw [← hZ] at hz
  have HZ : Hid (Z = Z47) := hZ
  have HE : Hid (s.data.toList = enc ls) := e1
  have HG : Hid (GoodL ls) := e2
  have hn : ls.length ≤ 127 := by omega
  have hs : s.size ≤ 255 := by omega
  clear hZ hsz e1 e2 e3 e4 hls hfew h
  go_enter Tryz.func88, Tryz.ntmps88
  go_wp2
  go_loopw [4] (fun i wr => ∃ (c P : Nat) (C : Array Value), c ≤ ls.length ∧ P < s.size ∧ i = .int .i64 P ∧ wr = (w.alloc (.cells Z 127)).alloc (.cells C 127) ∧ Hid (P = pos ls c) ∧ Hid (Fill ls c C)) (fun i _ => s.size - (intOf i).toNat)
  case atStart => exact ⟨0, 0, Z, Nat.zero_le _, by have := pos_lt ls 0; rw [← HE.out, pos_zero] at this; omega, rfl, rfl, (pos_zero ls).symm, by unfold Hid; rw [HZ.out]; exact fill_start ls⟩
  case round =>
    obtain ⟨c, P, C, hc, hPs, rfl, rfl, hP, hF⟩ := hrel
    have hPl : P < s.data.toList.length := by omega
    by_cases hcl : c < ls.length
    · have hat : s[P].toNat = ls[c].length := by
        have h1 := pos_at ls c hcl
        rw [← len_byte (HG.out ls[c] (List.getElem_mem _)).2, ← h1]
        congr 1
        have h2 := HE.out
        have h3 := hP.out
        subst h3
        show s.data.toList[pos ls c] = _
        congr 1
      have h1 := HG.out ls[c] (List.getElem_mem _)
      have hnz : ((s[P].toNat : Int) != 0) = true := by simp; omega
      have h63 : s[P].toNat ≤ 63 := by omega
      have hnext : P + (1 + s[P].toNat) = pos ls (c + 1) := by rw [pos_succ ls c hcl, ← hP.out, hat]; omega
      have hlt : P + (1 + s[P].toNat) < s.size := by have := pos_lt ls (c + 1); rw [← HE.out] at this; omega
      have hcell : ((w.alloc (.cells Z 127)).alloc (.cells C 127)).cell? ⟨w.heap.size + 1, 128, none⟩ = some (.int .i64 (c : Int)) := by
        have := World.cell?_alloc_mark (w.alloc (.cells Z 127)) C 127 (0, 0) 128
        rw [hF.out.2.1] at this
        simpa using this
      have hcell2 : ((w.alloc (.cells Z 127)).alloc (.cells (C.setIfInBounds 128 (.int .i64 ((c : Int) + 1))) 127)).cell? ⟨w.heap.size + 1, 128, none⟩ = some (.int .i64 ((c : Int) + 1)) := by
        have := World.cell?_alloc_mark (w.alloc (.cells Z 127)) (C.setIfInBounds 128 (.int .i64 ((c : Int) + 1))) 127 (0, 0) 128
        rw [Array.getElem?_setIfInBounds_self_of_lt (by rw [hF.out.1]; omega)] at this
        simpa using this
      obtain ⟨x, hx⟩ : ∃ x, (C.setIfInBounds 128 (.int .i64 ((c : Int) + 1)))[c + 1]? = some x := ⟨_, Array.getElem?_eq_getElem (by simp [hF.out.1]; omega)⟩
      have HF2 : Hid (Fill ls (c + 1) ((C.setIfInBounds 128 (.int .i64 ((c : Int) + 1))).setIfInBounds (c + 1) (.int .u8 ((P : Int) + (1 + (s[P].toNat : Int)))))) := by
        have := fill_next hF.out (by omega : c < 127)
        rw [← hnext] at this
        unfold Hid
        simpa using this
      have HN : Hid (P + (1 + s[P].toNat) = pos ls (c + 1)) := hnext
      clear hnext hat h1
      go_wp2
      go_roundw
      case rel => exact ⟨c + 1, P + (1 + s[P].toNat), _, by omega, hlt, by go_num, rfl, HN, HF2⟩
      case measure => simp [intOf]; omega
    · have hat : s[P].toNat = 0 := by
        have h1 := pos_end ls c (by omega)
        have h2 := HE.out
        have h3 := hP.out
        subst h3
        have h4 : s[pos ls c] = 0 := by
          rw [← h1]
          show s.data.toList[pos ls c] = _
          congr 1
        rw [h4]; rfl
      have hnz : ((s[P].toNat : Int) != 0) = false := by simp [hat]
      have hce : c = ls.length := by omega
      have HF : Hid (Fill ls ls.length C) := by rw [← hce]; exact hF
      have hg1 : ((w.alloc (.cells Z 127)).alloc (.cells C 127)).heap[w.heap.size + 1]? = some (.cells C 127 (0, 0)) := by
        have := heap_alloc_last (w.alloc (.cells Z 127)) (.cells C 127)
        simpa using this
      have hg0 : ((w.alloc (.cells Z 127)).alloc (.cells C 127)).heap[w.heap.size]? = some (.cells Z 127 (0, 0)) := by
        rw [Below.heap_alloc (w.alloc (.cells Z 127)) _ w.heap.size (by simp)]
        exact heap_alloc_last w _
      have hZs : Z.size = 129 := by rw [HZ.out]; exact (fill_start ls).1
      clear hat
      have hb1 : Below w.heap.size w ((w.alloc (.cells Z 127)).alloc (.cells C 127)) := lay (lay (Below.refl _ _) _) _
      go_wp2_with (first
        | (refine wpList_loadPl _ rfl (.tmp 3) rfl _ C rfl hg1 HF.out.1 ?_)
        | (refine wpList_storePl _ rfl (.tmp 2) (.tmp 26) rfl _ Z C rfl rfl hg0 hZs HF.out.1 HF.out.2.2.2 ?_; intro w3 h1 h2 h3))
      have hbel : Below w.heap.size w w3 := hb1.trans ⟨h2.os, h2.tape, h2.output, h2.size, fun k hk => h2.block k (by simp; omega) (by intro e; have := Option.some.inj e; omega)⟩
      have hld2 : (loadVar 127 ⟨w.heap.size, 0, none⟩).run Tryz.prog w3 = .ok (.agg C) w3 :=
        run_loadVar_row _ _ 127 127 C (0, 0) _ h1 Tryz.underlying127 rfl (by rw [HF.out.1]; exact (zero_of_info info47).2)
      refine bodyPost_ret (v := .agg C) ?_ rfl ⟨C, rfl, hbel, HF.out⟩
      rw [results_cell rfl]
      exact hld2

end Go.Proofs.YtnjgdfmldjgloaaGreat

/- What Clone of the library gives: the same bytes; then Parent of package rel. -/
namespace Go.Proofs.YtnjgdfmldjgloaaGreat
open Go.RowKit
open Pl

theorem below_drew {w w' : World} (h : ∃ m, w' = w.drewN m) : Below w.heap.size w w' := by
  obtain ⟨m, rfl⟩ := h
  exact ⟨rfl, rfl, rfl, Nat.le_refl _, fun _ _ => rfl⟩

/-- The world behind a copy of bytes. -/
theorem clone_steps (s : ByteArray) (w : World) (h0 : s.size ≠ 0) (h1 : s.size ≤ 140737488355328) : ∃ (wa wb wc : World),
    (∀ u : World, u = w → (Instr.makeSlice 110 (.int .i64 (s.size : Int)) (.int .i64 (s.size : Int))).run Tryz.prog u = .ok (.slice (some ⟨w.heap.size, 0, none⟩) s.size s.size) wa) ∧
    (Builtin.copy_ #[110, 9] 3 #[.slice (some ⟨w.heap.size, 0, none⟩) s.size s.size, .string s]).run Tryz.prog wa = .ok (goInt s.size) wb ∧
    (Builtin.unsafeString_ #[143, 3] 9 #[.pointer (some ⟨w.heap.size, 0, none⟩), .int .i64 (s.size : Int)]).run Tryz.prog wb = .ok (.string s) wc ∧ Below w.heap.size w wc := by
  obtain ⟨i0, hi, hz0, hz1, hz2⟩ := info_parts info5
  have hone : (Tryz.prog.info? 5).map (·.size) = some 1 := by rw [hi]; simp [hz1]
  have hco : Tryz.prog.cellsOf 5 = 1 := by simp [Program.cellsOf, hi, hz1]
  have hmk := run_make (P := Tryz.prog) w 110 5 i0 (.int .u8 0) Tryz.underlying110 hi hz0 .i64 .i64 (s.size : Int) (s.size : Int) (by omega) (by omega) (by rw [hz2]; omega) (by omega)
  obtain ⟨M, hM⟩ : ∃ M, M = madeCells (Value.int .u8 0).cells (((s.size : Nat) : Int).toNat * i0.size) := ⟨_, rfl⟩
  have hMs : M.size = s.size := by rw [hM, size_madeCells, hz1]; simp
  rw [← hM] at hmk
  have hcp := Lib.run_copy_row_string (P := Tryz.prog) (w.alloc (.cells M 5)) 110 9 3 5 w.heap.size 0 s.size s.size s M 5 Tryz.underlying110 hone (heap_alloc_new w _) (Nat.le_refl _) (by omega)
  obtain ⟨Y, hY⟩ : ∃ Y, Y = (M.toList.take 0 ++ Lib.byteCells s.data.toList ++ M.toList.drop (0 + s.size)).toArray := ⟨_, rfl⟩
  rw [← hY] at hcp
  have hYl : Y.toList = Lib.byteCells s.data.toList := by
    rw [hY]
    simp [List.drop_of_length_le, hMs]
  have hYs : Y.size = s.size := by rw [← Array.length_toList, hYl, Lib.byteCells_length, data_len]
  have hgY : ((w.alloc (.cells M 5)).setRow w.heap.size Y).heap[w.heap.size]? = some (.cells Y 5 (0, 0)) := setRow_heap _ _ M _ 5 (0, 0) (heap_alloc_new w _)
  have hne : s.data.toList ≠ [] := fun e => h0 (by rw [← data_len, e]; rfl)
  have hus := Lib.run_unsafeString_row (P := Tryz.prog) ((w.alloc (.cells M 5)).setRow w.heap.size Y) 143 3 9 5 Tryz.underlying143 hco w.heap.size Y.size (by unfold World.shape?; rw [hgY]) s.data.toList hne (by rw [data_len]; omega) (by rw [data_len]; omega)
    (fun j x hx => Lib.cells_of_row hgY Y.size j _ (by rw [List.take_of_length_le (by rw [Array.length_toList]; exact Nat.le_refl _), hYl]; simp [Lib.byteCells, hx]))
  rw [data_len] at hus
  refine ⟨_, _, _, fun u hu => by rw [hu]; simpa using hmk, hcp, hus, ?_⟩
  have hb1 : Below w.heap.size w (w.alloc (.cells M 5)) := lay (Below.refl _ _) _
  have hb2 : Below w.heap.size (w.alloc (.cells M 5)) ((w.alloc (.cells M 5)).setRow w.heap.size Y) := ⟨rfl, rfl, rfl, by simp, fun k hk => setRow_other _ _ _ _ (by omega)⟩
  exact Lib.below_freeze (hb1.trans hb2) (p := ⟨w.heap.size, 0, none⟩) (Nat.le_refl _) _

set_option maxRecDepth 20000 in
theorem liteClone_any (s : ByteArray) (w : World) (h1 : s.size ≤ 140737488355328) :
    Calls Tryz.prog 97 #[.string s] w fun e w' => e = .returned (.string s) ∧ Below w.heap.size w w' := by
  by_cases h0 : s.size = 0
  · have hs : s = ⟨#[]⟩ := by
      apply ByteArray.ext
      exact Array.eq_empty_of_size_eq_zero h0
    subst hs
    go_enter Tryz.func97, Tryz.ntmps97
    go_wp2
    go_ret
    exact ⟨rfl, Below.refl _ _⟩
  · obtain ⟨wa, wb, wc, hmk0, hcp, hus, hbel⟩ := clone_steps s w h0 h1
    have hmk := hmk0 w rfl
    clear hmk0
    have h00 : ((s.size : Int) == 0) = false := by rw [beq_eq_false_iff_ne]; omega
    have h02 : (0 : Int) < (s.size : Int) := by omega
    go_enter Tryz.func97, Tryz.ntmps97
    go_wp2
    go_ret
    exact ⟨rfl, hbel⟩

theorem clone_far (s : ByteArray) (w : World) (h1 : s.size ≤ 140737488355328) :
    Calls Tryz.prog 82 #[.string s] w fun e w' => e = .returned (.string s) ∧ Below w.heap.size w w' := by
  go_enter Tryz.func82, Tryz.ntmps82
  go_wp2_with (go_at_call 97; refine (liteClone_any _ _ h1).mono ?_; rintro e w1 ⟨rfl, hb1⟩)
  go_ret
  exact ⟨rfl, hb1⟩
theorem clone_any (s : ByteArray) (w : World) (h1 : s.size ≤ 1000000) :
    Calls Tryz.prog 82 #[.string s] w fun e w' => e = .returned (.string s) ∧ Below w.heap.size w w' := clone_far s w (by omega)

end Go.Proofs.YtnjgdfmldjgloaaGreat

/- What U16, U32, Put16 and Put32 of package octet give, for every argument. -/
namespace Go.Proofs.YtnjgdfmldjgloaaGreat
open Go.RowKit

/-- The byte of a number that stands at d, a power of 256. -/
def oct (x d : Int) : UInt8 := UInt8.ofNat (x / d % 256).toNat
theorem oct_nat (x d : Int) : ((oct x d).toNat : Int) = x / d % 256 := by
  unfold oct
  have h0 : 0 ≤ x / d % 256 := Int.emod_nonneg _ (by decide)
  have h1 : x / d % 256 < 256 := Int.emod_lt_of_pos _ (by decide)
  rw [UInt8.toNat_ofNat']
  omega

/-- The number of two bytes, of four. -/
def two (a b : UInt8) : Int := 256 * (a.toNat : Int) + (b.toNat : Int)
def four (a b c d : UInt8) : Int := 65536 * two a b + two c d
/-- A number as two bytes, as four. -/
def be2 (x : Int) : ByteArray := ⟨#[oct x 256, oct x 1]⟩
def be4 (x : Int) : ByteArray := ⟨#[oct x 16777216, oct x 65536, oct x 256, oct x 1]⟩

theorem two_be (x : Int) : two (oct x 256) (oct x 1) = x % 65536 := by
  unfold two; rw [oct_nat, oct_nat]; omega
theorem four_be (x : Int) : four (oct x 16777216) (oct x 65536) (oct x 256) (oct x 1) = x % 4294967296 := by
  unfold four two; rw [oct_nat, oct_nat, oct_nat, oct_nat]; omega
theorem two_lt (a b : UInt8) : 0 ≤ two a b ∧ two a b < 65536 := by
  unfold two; have := a.toNat_lt; have := b.toNat_lt; omega


theorem or8 (a b : Nat) (ha : a < 256) (hb : b < 256) : bits .or .u16 ((a : Int) * 256) (b : Int) = 256 * (a : Int) + (b : Int) := by
  have e : ((a : Int) * 256) = ((a * 2 ^ 8 : Nat) : Int) := by omega
  rw [e, u16_or_nat _ _ (by omega) (by omega), Nat.mul_comm, ← Nat.two_pow_add_eq_or_of_lt (by omega)]
  omega
theorem or16 (a b : Nat) (ha : a < 65536) (hb : b < 65536) : bits .or .u32 ((a : Int) * 65536) (b : Int) = 65536 * (a : Int) + (b : Int) := by
  have e : ((a : Int) * 65536) = ((a * 2 ^ 16 : Nat) : Int) := by omega
  rw [e, u32_or_nat _ _ (by omega) (by omega), Nat.mul_comm, ← Nat.two_pow_add_eq_or_of_lt (by omega)]
  omega






theorem ext_at (s : ByteArray) (k j : Nat) (h : k + j < s.size) : (s.extract k s.size)[j]'(by simp; omega) = s[k + j] := by
  show (s.extract k s.size).data[j]'(by have : j < (s.extract k s.size).size := by simp; omega
                                        exact this) = s.data[k + j]'h
  simp only [ByteArray.data_extract, Array.getElem_extract]






theorem cut_from (s : ByteArray) (k : Nat) (h : k ≤ s.size) (u : World) : (Instr.slice 9 (.string s) (some (.int .i64 (k : Int))) none none).run Tryz.prog u = .ok (.string (s.extract k s.size)) u := by
  have := run_slice_string_l (P := Tryz.prog) (w := u) (t := 9) (s := s) Tryz.underlying9 .i64 (k : Int) (by omega) (by omega)
  rw [this]; rfl





end Go.Proofs.YtnjgdfmldjgloaaGreat

/- What awake gives: true. -/
namespace Go.Proofs.YtnjgdfmldjgloaaGreat
open Go.RowKit



end Go.Proofs.YtnjgdfmldjgloaaGreat

/- U16 and U32 at a place where a number was put; masks. -/
namespace Go.Proofs.YtnjgdfmldjgloaaGreat
open Go.RowKit

theorem app_list (a b : ByteArray) : (a ++ b).data.toList = a.data.toList ++ b.data.toList := by simp

theorem drop_get {s : ByteArray} {k : Nat} {l : List UInt8} (h : s.data.toList.drop k = l) (j : Nat) (hj : j < l.length) : ∃ h2 : k + j < s.size, s[k + j] = l[j] := by
  have h1 : l.length = s.size - k := by rw [← h, List.length_drop, data_len]
  have h2 : k + j < s.size := by omega
  refine ⟨h2, ?_⟩
  subst h
  rw [List.getElem_drop]
  rfl



theorem mask (n : Int) (j : Nat) (hj : j ≤ 62) : bits .and .i64 n (((2 ^ j - 1 : Nat)) : Int) = n % ((2 ^ j : Nat) : Int) := by
  have h2 : 2 ^ j ≤ 2 ^ 62 := Nat.pow_le_pow_right (by decide) hj
  have h1 : 1 ≤ 2 ^ j := Nat.one_le_two_pow
  have h3 : (BitVec.ofInt 64 (((2 ^ j - 1 : Nat)) : Int)).toNat = 2 ^ j - 1 := by
    rw [BitVec.ofInt_natCast, BitVec.toNat_ofNat]; exact Nat.mod_eq_of_lt (by omega)
  have key : (BitVec.ofInt 64 n &&& BitVec.ofInt 64 (((2 ^ j - 1 : Nat)) : Int)).toNat = (n % ((2 ^ 64 : Nat) : Int)).toNat % 2 ^ j := by
    rw [BitVec.toNat_and, BitVec.toNat_ofInt, h3, Nat.and_two_pow_sub_one_eq_mod]
  show IntKind.i64.wrap ((BitVec.ofInt 64 n &&& BitVec.ofInt 64 (((2 ^ j - 1 : Nat)) : Int)).toNat : Nat) = _
  have hl : (n % ((2 ^ 64 : Nat) : Int)).toNat % 2 ^ j < 2 ^ j := Nat.mod_lt _ h1
  rw [key, IntKind.wrap_i64]
  have e1 : (((n % ((2 ^ 64 : Nat) : Int)).toNat % 2 ^ j : Nat) : Int) = n % ((2 ^ j : Nat) : Int) := by
    rw [Int.natCast_emod, Int.toNat_of_nonneg (Int.emod_nonneg _ (by decide))]
    exact Int.emod_emod_of_dvd _ (Int.natCast_dvd_natCast.2 (Nat.pow_dvd_pow 2 (by omega)))
  omega
theorem mask16 (n : Int) : bits .and .i64 n 65535 = n % 65536 := mask n 16 (by decide)
theorem mask32 (n : Int) : bits .and .i64 n 4294967295 = n % 4294967296 := mask n 32 (by decide)
theorem mask1 (n : Int) : bits .and .i64 n 1 = n % 2 := mask n 1 (by decide)

end Go.Proofs.YtnjgdfmldjgloaaGreat

/- What the document's Num and Be give. -/
namespace Go.Proofs.YtnjgdfmldjgloaaGreat
open Go.RowKit

/-- The number of n bytes from k on. -/
def val (s : ByteArray) (k : Nat) : Nat → Int
  | 0 => 0
  | i + 1 => val s k i * 256 + ((s.data.toList.getD (k + i) 0).toNat : Int)
theorem val_lt (s : ByteArray) (k : Nat) : ∀ i, 0 ≤ val s k i ∧ val s k i < 256 ^ i := by
  intro i
  induction i with
  | zero => simp [val]
  | succ i ih =>
    have := (s.data.toList.getD (k + i) 0).toNat_lt
    unfold val
    rw [Int.pow_succ]
    omega
theorem val_getD (s : ByteArray) (k : Nat) (h : k < s.size) : s.data.toList.getD k 0 = s[k] := by
  rw [List.getD_eq_getElem?_getD, List.getElem?_eq_getElem (by rw [data_len]; exact h)]
  rfl
theorem val_two (s : ByteArray) (k : Nat) (h : k + 2 ≤ s.size) : val s k 2 = two s[k] s[k + 1] := by
  unfold val val val two
  rw [val_getD s _ (by omega), val_getD s _ (by omega)]
  simp only [Nat.add_zero]
  omega
theorem val_four (s : ByteArray) (k : Nat) (h : k + 4 ≤ s.size) : val s k 4 = four s[k] s[k + 1] s[k + 2] s[k + 3] := by
  unfold val val val val val four two
  rw [val_getD s _ (by omega), val_getD s _ (by omega), val_getD s _ (by omega), val_getD s _ (by omega)]
  simp only [Nat.add_zero]
  omega

theorem wraps_i64 (n : Int) (h₀ : 0 ≤ n) (h₁ : n < 2 ^ 62) : IntKind.i64.wrap n = n := by rw [IntKind.wrap_i64]; omega



end Go.Proofs.YtnjgdfmldjgloaaGreat

/- What the document's Be gives. -/
namespace Go.Proofs.YtnjgdfmldjgloaaGreat
open Go.RowKit


theorem made_zero (n : Nat) : madeCells #[.int .u8 0] n = ((List.replicate n (0 : UInt8)).map bv).toArray := by
  apply Array.ext
  · simp [madeCells]
  · intro i h1 h2
    simp [madeCells, bv, Nat.mod_one]

/-- The last j bytes of a number of n bytes, zeros ahead of them. -/
def beL (x : Int) (n j : Nat) : List UInt8 := (List.range n).map fun p => if n - j ≤ p then oct x (256 ^ (n - 1 - p)) else 0
theorem beL_len (x : Int) (n j : Nat) : (beL x n j).length = n := by simp [beL]
theorem beL_zero (x : Int) (n : Nat) : beL x n 0 = List.replicate n 0 := by
  apply List.ext_getElem (by simp [beL])
  intro i h1 h2
  have : i < n := by simpa [beL] using h1
  simp only [beL, List.getElem_map, List.getElem_range, List.getElem_replicate]
  rw [if_neg (by omega)]
theorem beL_set (x : Int) (n j q : Nat) (h : q + 1 + j = n) : (beL x n j).set q (oct x (256 ^ j)) = beL x n (j + 1) := by
  apply List.ext_getElem (by simp [beL])
  intro i h1 h2
  have hi : i < n := by simpa [beL] using h2
  rw [List.getElem_set]
  simp only [beL, List.getElem_map, List.getElem_range]
  split
  · rename_i e
    subst e
    rw [if_pos (by omega), show n - 1 - q = j from by omega]
  · by_cases hj : n - j ≤ i
    · rw [if_pos hj, if_pos (by omega)]
    · rw [if_neg hj, if_neg (by omega)]
theorem beL_two (x : Int) : beL x 2 2 = [oct x 256, oct x 1] := by
  simp [beL, List.range_succ]
theorem beL_four (x : Int) : beL x 4 4 = [oct x 16777216, oct x 65536, oct x 256, oct x 1] := by
  simp [beL, List.range_succ]

theorem set_cells (l : List UInt8) (i : Nat) (b : UInt8) : (l.map bv).set i (.int .u8 (b.toNat : Int)) = (l.set i b).map bv := by
  rw [List.map_set]; rfl

theorem wraps_u64 (n : Int) (h₀ : 0 ≤ n) (h₁ : n < 2 ^ 64) : IntKind.u64.wrap n = n := by
  have : IntKind.u64.wrap n = n % 18446744073709551616 := by simp [IntKind.wrap, IntKind.bits, IntKind.signed]
  rw [this]; omega

theorem u64_byte (x u : Int) (j : Nat) (hj : j ≤ 4) (hu : u = x % 18446744073709551616 / 256 ^ j) : bits .and .u64 u 255 = ((oct x (256 ^ j)).toNat : Int) := by
  have hd : j = 0 ∨ j = 1 ∨ j = 2 ∨ j = 3 ∨ j = 4 := by omega
  have h0 : 0 ≤ u ∧ u < 18446744073709551616 := by
    rcases hd with rfl | rfl | rfl | rfl | rfl <;> subst hu <;> omega
  have := bits_mask .u64 64 (by decide) wraps_u64 8 (by decide) u h0.1 (by omega)
  rw [oct_nat]
  have h2 : bits .and .u64 u 255 = u % 256 := by simpa using this
  rw [h2]
  rcases hd with rfl | rfl | rfl | rfl | rfl <;> subst hu <;> omega




end Go.Proofs.YtnjgdfmldjgloaaGreat

/- Blocks, rows and what calls leave of them, where the seat has no text of package wire's to take them from. -/
namespace Go.Proofs.YtnjgdfmldjgloaaGreat
open Go.RowKit

/-- A block as it was laid. -/
def Blk (w : World) (g : Nat) (C : Array Value) (t : TypeId) : Prop := w.heap[g]? = some (.cells C t (0, 0))
theorem Blk.cell {w : World} {g : Nat} {C : Array Value} {t : TypeId} (h : Blk w g C t) (i : Nat) : w.cell? ⟨g, i, none⟩ = C[i]? := cell_of_row w g i C t _ h
theorem Blk.frozen {w : World} {g : Nat} {C : Array Value} {t : TypeId} (h : Blk w g C t) (i : Nat) : w.frozen? ⟨g, i, none⟩ = false := by
  unfold Blk at h
  simp only [World.frozen?, h]
  simp
theorem Blk.drew {w w' : World} {g : Nat} {C : Array Value} {t : TypeId} (h : Blk w g C t) (hd : ∃ m, w' = w.drewN m) : Blk w' g C t := by
  obtain ⟨m, rfl⟩ := hd; exact h
theorem Blk.lt {w : World} {g : Nat} {C : Array Value} {t : TypeId} (h : Blk w g C t) : g < w.heap.size := (Array.getElem?_eq_some_iff.1 h).1
theorem Blk.below {w w' : World} {g : Nat} {C : Array Value} {t : TypeId} (h : Blk w g C t) (hb : Below w.heap.size w w') : Blk w' g C t := by
  unfold Blk; rw [hb.block g h.lt]; exact h
theorem Blk.alloc {w : World} {g : Nat} {C : Array Value} {t : TypeId} (h : Blk w g C t) (o : Obj) : Blk (w.alloc o) g C t := h.below ((Below.refl _ _).alloc (Nat.le_refl _) o)
theorem Blk.new (w : World) (C : Array Value) (t : TypeId) : Blk (w.alloc (.cells C t)) w.heap.size C t := heap_alloc_new w _
theorem Blk.set {w : World} {g : Nat} {C : Array Value} {t : TypeId} (h : Blk w g C t) (i : Nat) (v : Value) : Blk (w.setCell ⟨g, i, none⟩ v) g (C.setIfInBounds i v) t := heap_setCell_same w g i C t v h
theorem Blk.other {w : World} {g b : Nat} {C : Array Value} {t : TypeId} (h : Blk w g C t) (hb : g ≠ b) (i : Nat) (v : Value) : Blk (w.setCell ⟨b, i, none⟩ v) g C t := by
  unfold Blk; rw [heap_setCell_other w ⟨b, i, none⟩ g v hb]; exact h
/-- A world in which all that w holds lies as it lay. -/
structure Bel (w : World) where
  to : World
  h : Below w.heap.size w to
/-- A region that draws its order, whose calls lay new blocks alone: one walk, in the order of the text. -/
theorem wp_region_bel {P : Program} {id : Nat} {Q : Exit → Act → World → Prop} {a : Act} {w : World} {l : List Oper} (hm : P.follows .mixedOrders = true) (hB : Region.lexB .any l.toArray = true)
    (h : Nonempty (Bel w) → wpQuiet P l.toArray (fun w' => ∃ n : Bel w, w' = n.to) (fun a' => ∀ w', (∃ n : Bel w, w' = n.to) → Q .normal a' w') l a) : (Code.region id l.toArray true).wp P Q a w :=
  wp_region_quiet (C := fun w' => ∃ n : Bel w, w' = n.to) hm hB ⟨⟨_, below_drew ⟨1, rfl⟩⟩, rfl⟩ (h ⟨⟨w, Below.refl _ _⟩⟩)
theorem bel_same {P : Program} {f : FuncId} {args : Array Value} {w : World} {n : Bel w} {v : Value}
    (h : Calls P f args n.to fun e w' => e = .returned v ∧ w' = n.to) : Calls P f args n.to fun e w'' => e = .returned v ∧ ∃ m : Bel w, w'' = m.to :=
  h.mono fun _ _ ⟨he, hm⟩ => ⟨he, n, hm⟩
theorem bel_lays {P : Program} {f : FuncId} {args : Array Value} {w : World} {n : Bel w} {v : Value}
    (h : Calls P f args n.to fun e w' => e = .returned v ∧ Below n.to.heap.size n.to w') : Calls P f args n.to fun e w'' => e = .returned v ∧ ∃ m : Bel w, w'' = m.to :=
  h.mono fun _ w' ⟨he, hm⟩ => ⟨he, ⟨w', next n.h hm⟩, rfl⟩
theorem bel_out {w w' : World} (h : ∃ n : Bel w, w' = n.to) : Below w.heap.size w w' := by
  obtain ⟨n, rfl⟩ := h; exact n.h
theorem Blk.grown {w w' : World} {g : Nat} {C : Array Value} {t : TypeId} {row : Option Nat} (h : Blk w g C t) (hg : w.grownBy w' row) (hne : some g ≠ row) : Blk w' g C t := by
  unfold Blk; rw [hg.block g h.lt hne]; exact h
/-- All that lay in w lies in w' as it lay, but for the blocks of S. -/
structure Turn (S : Nat → Prop) (w w' : World) : Prop where
  os : w'.os = w.os
  tape : w'.tape = w.tape
  output : w'.output = w.output
  size : w.heap.size ≤ w'.heap.size
  block : ∀ k, k < w.heap.size → ¬ S k → w'.heap[k]? = w.heap[k]?
theorem Turn.refl (S : Nat → Prop) (w : World) : Turn S w w := ⟨rfl, rfl, rfl, Nat.le_refl _, fun _ _ _ => rfl⟩
theorem Turn.of_below {S : Nat → Prop} {w w' : World} (h : Below w.heap.size w w') : Turn S w w' := ⟨h.os, h.tape, h.output, h.size, fun k hk _ => h.block k hk⟩
theorem Turn.of_grown {S : Nat → Prop} {w w' : World} {row : Option Nat} (h : w.grownBy w' row) (hr : ∀ k, row = some k → S k) : Turn S w w' :=
  ⟨h.os, h.tape, h.output, h.size, fun k hk hs => h.block k hk (fun e => hs (hr k e.symm))⟩
theorem Turn.of_set {S : Nat → Prop} (w : World) {p : Addr} (hp : S p.block) (v : Value) : Turn S w (w.setCell p v) :=
  ⟨rfl, rfl, rfl, by simp, fun k _ hs => Below.heap_setCell w p v k (fun e => hs (e ▸ hp))⟩
theorem Turn.trans {S S' : Nat → Prop} {a b c : World} (h : Turn S a b) (k : Turn S' b c) (hs : ∀ i, S' i → S i ∨ a.heap.size ≤ i) : Turn S a c :=
  ⟨k.os.trans h.os, k.tape.trans h.tape, k.output.trans h.output, Nat.le_trans h.size k.size, fun i hi hn =>
    (k.block i (Nat.lt_of_lt_of_le hi h.size) (fun e => (hs i e).elim hn (fun g => by omega))).trans (h.block i hi hn)⟩
theorem Turn.below {S : Nat → Prop} {w a b : World} {B : Nat} (hb : Below B w a) (h : Turn S a b) (hB : B ≤ a.heap.size) (hs : ∀ i, S i → B ≤ i) : Below B w b :=
  ⟨h.os.trans hb.os, h.tape.trans hb.tape, h.output.trans hb.output, Nat.le_trans hb.size h.size, fun k hk => (h.block k (by omega) (fun e => by have := hs k e; omega)).trans (hb.block k hk)⟩
theorem Turn.blk {S : Nat → Prop} {w w' : World} {g : Nat} {C : Array Value} {t : TypeId} (h : Turn S w w') (hb : Blk w g C t) (hs : ¬ S g) : Blk w' g C t := by
  unfold Blk; rw [h.block g hb.lt hs]; exact hb
theorem Turn.row {S : Nat → Prop} {w w' : World} {base e z n : Nat} {v : Value} {xs : List Value} (h : Turn S w w') (ho : w.ownsRow base e z v n xs) (hs : ∀ k, v.ownBlock = some k → ¬ S k) : w'.ownsRow base e z v n xs := by
  refine ⟨ho.1, ?_⟩
  rcases ho.2 with h0 | ⟨g, cap, cur, rfl, hb, hg, rest⟩
  · exact .inl h0
  · have hlt := (Array.getElem?_eq_some_iff.1 hg).1
    exact .inr ⟨g, cap, cur, rfl, hb, by rw [h.block g hlt (hs g rfl)]; exact hg, rest⟩
theorem Turn.alloc {S : Nat → Prop} {w a : World} (h : Turn S w a) (o : Obj) : Turn S w (a.alloc o) := h.trans (S' := fun _ => False) (Turn.of_below ((Below.refl _ _).alloc (Nat.le_refl _) o)) (fun _ => False.elim)
theorem Turn.past {S : Nat → Prop} {w a b : World} (h : Turn S w a) (hb : Below a.heap.size a b) : Turn S w b := h.trans (S' := fun _ => False) (Turn.of_below hb) (fun _ => False.elim)
theorem Turn.setNew {S : Nat → Prop} {w a : World} (h : Turn S w a) {k : Nat} (hk : w.heap.size ≤ k) (i : Nat) (v : Value) : Turn S w (a.setCell ⟨k, i, none⟩ v) :=
  h.trans (S' := fun j => j = k) (Turn.of_set (S := fun j => j = k) a (p := ⟨k, i, none⟩) rfl v) (fun _ e => .inr (by rw [e]; exact hk))
theorem Turn.same {S : Nat → Prop} {w a b : World} (h : Turn S w a) (k : Turn S a b) : Turn S w b := h.trans k (fun _ e => .inl e)
theorem Turn.more {S S' : Nat → Prop} {w w' : World} (h : Turn S w w') (hs : ∀ k, S k → S' k) : Turn S' w w' := ⟨h.os, h.tape, h.output, h.size, fun k hk hn => h.block k hk (fun e => hn (hs k e))⟩
theorem row_shape {w : World} {base e z n : Nat} {v : Value} {xs : List Value} (h : w.ownsRow base e z v n xs) : ∃ y c, v = .slice y n c := by
  rcases h.2 with ⟨h1, h2⟩ | ⟨g, cap, cur, h1, _⟩
  · exact ⟨none, 0, by rw [h1, h2]⟩
  · exact ⟨_, _, h1⟩
theorem str_list (s : ByteArray) : Lib.strCells s = s.data.toList.map bv := rfl
/-- A question. -/
structure Qn where
  n : ByteArray
  t : Int
  c : Int
/-- A record. -/
structure Rc where
  n : ByteArray
  t : Int
  c : Int
  l : Int
  d : ByteArray
/-- A header. -/
structure Hd where
  id : Int
  qr : Bool
  op : Int
  aa : Bool
  tc : Bool
  rd : Bool
  ra : Bool
  z : Int
  rc : Int
/-- A message. -/
structure Ms where
  h : Hd
  qs : List Qn
  an : List Rc
  ns : List Rc
  ar : List Rc
theorem arr_list (s : ByteArray) : (⟨s.data.toList.toArray⟩ : ByteArray) = s := by cases s; simp
/-- Questions and records as cells. -/
def qV (q : Qn) : List Value := [.string q.n, .int .i64 q.t, .int .i64 q.c]
def rV (r : Rc) : List Value := [.string r.n, .int .i64 r.t, .int .i64 r.c, .int .i64 r.l, .string r.d]
def qC (qs : List Qn) : List Value := qs.flatMap qV
def rC (rs : List Rc) : List Value := rs.flatMap rV
theorem flat_len {α : Type} {f : α → List Value} {z : Nat} (hz : ∀ x, (f x).length = z) (xs : List α) : (xs.flatMap f).length = xs.length * z := by
  induction xs with
  | nil => simp
  | cons x xs ih => rw [List.flatMap_cons, List.length_append, hz, ih, List.length_cons, Nat.succ_mul]; omega
theorem flat_get {α : Type} {f : α → List Value} {z : Nat} (hz : ∀ x, (f x).length = z) : ∀ (xs : List α) (k : Nat) (hk : k < xs.length) (i : Nat), i < z → (xs.flatMap f)[k * z + i]? = (f xs[k])[i]? := by
  intro xs
  induction xs with
  | nil => intro k hk; simp at hk
  | cons x xs ih =>
    intro k hk i hi
    rw [List.flatMap_cons]
    cases k with
    | zero => rw [Nat.zero_mul, Nat.zero_add, List.getElem?_append_left (by rw [hz]; exact hi)]; rfl
    | succ k =>
      rw [List.getElem?_append_right (by rw [hz, Nat.succ_mul]; omega), hz, show (k + 1) * z + i - z = k * z + i from by rw [Nat.succ_mul]; omega]
      exact ih k (by simpa using hk) i hi
theorem qC_len (qs : List Qn) : (qC qs).length = qs.length * 3 := flat_len (f := qV) (z := 3) (fun _ => rfl) qs
theorem rC_len (rs : List Rc) : (rC rs).length = rs.length * 5 := flat_len (f := rV) (z := 5) (fun _ => rfl) rs
theorem qC_app (a b : List Qn) : qC (a ++ b) = qC a ++ qC b := by simp [qC]
theorem rC_app (a b : List Rc) : rC (a ++ b) = rC a ++ rC b := by simp [rC]
theorem qC_one (a : List Qn) : ∀ u ∈ qC a, u.oneCell' = true := by
  intro u hu
  simp only [qC, List.mem_flatMap] at hu
  obtain ⟨m, _, hu⟩ := hu
  simp [qV] at hu
  rcases hu with rfl | rfl | rfl <;> rfl
theorem rC_one (a : List Rc) : ∀ u ∈ rC a, u.oneCell' = true := by
  intro u hu
  simp only [rC, List.mem_flatMap] at hu
  obtain ⟨m, _, hu⟩ := hu
  simp [rV] at hu
  rcases hu with rfl | rfl | rfl | rfl | rfl <;> rfl
/-- A row that is read: so many elements, their cells. -/
def Row (w : World) (v : Value) (n : Nat) (xs : List Value) : Prop :=
  (v = .slice none 0 0 ∧ n = 0) ∨ ∃ (g o : Nat) (p : Option Nat) (cap : Nat), v = .slice (some ⟨g, o, p⟩) n cap ∧ (0 < n → p = none) ∧ ∀ j u, xs[j]? = some u → w.cell? ⟨g, o + j, none⟩ = some u
theorem Row.below {w w' : World} {v : Value} {n : Nat} {xs : List Value} (h : Row w v n xs) (hb : Below w.heap.size w w') : Row w' v n xs := by
  rcases h with h | ⟨g, o, p, cap, hv, hp, hc⟩
  · exact .inl h
  · exact .inr ⟨g, o, p, cap, hv, hp, fun j u hu => by have h1 := hc j u hu; rw [hb.cell (World.block_lt_of_cell? _ _ h1)]; exact h1⟩
theorem Row.of_own {w : World} {base e z n : Nat} {v : Value} {xs : List Value} (h : w.ownsRow base e z v n xs) : Row w v n xs := by
  rcases h.2 with ⟨h1, h2⟩ | ⟨g, cap, cur, h1, rest⟩
  · exact .inl ⟨h1, h2⟩
  · refine .inr ⟨g, 0, none, cap, h1, fun _ => rfl, fun j u hu => ?_⟩
    have hj : j < n * z := by have := (List.getElem?_eq_some_iff.1 hu).1; rw [← h.1]; exact this
    subst h1
    rw [Nat.zero_add, h.cellAt j hj, hu]
/-- A row of questions, of records: no string is too long. -/
def QRow (w : World) (v : Value) (qs : List Qn) : Prop := Row w v qs.length (qC qs) ∧ qs.length ≤ maxLen ∧ ∀ q ∈ qs, q.n.size ≤ maxLen
def RRow (w : World) (v : Value) (rs : List Rc) : Prop := Row w v rs.length (rC rs) ∧ rs.length ≤ maxLen ∧ ∀ r ∈ rs, r.n.size ≤ maxLen ∧ r.d.size ≤ maxLen
theorem QRow.below {w w' : World} {v : Value} {qs : List Qn} (h : QRow w v qs) (hb : Below w.heap.size w w') : QRow w' v qs := ⟨h.1.below hb, h.2⟩
theorem RRow.below {w w' : World} {v : Value} {rs : List Rc} (h : RRow w v rs) (hb : Below w.heap.size w w') : RRow w' v rs := ⟨h.1.below hb, h.2⟩
theorem row_none {w : World} {v : Value} {xs : List Value} (h : Row w v 0 xs) : ∃ x c, v = .slice x 0 c := by
  rcases h with ⟨h, _⟩ | ⟨g, o, p, cap, h, _⟩
  · exact ⟨_, _, h⟩
  · exact ⟨_, _, h⟩
theorem row_at {w : World} {v : Value} {n : Nat} {xs : List Value} (h : Row w v n xs) (hn : 0 < n) : ∃ g o cap, v = .slice (some ⟨g, o, none⟩) n cap ∧ ∀ j u, xs[j]? = some u → w.cell? ⟨g, o + j, none⟩ = some u := by
  rcases h with ⟨_, h⟩ | ⟨g, o, p, cap, h, hp, hc⟩
  · omega
  · rw [hp hn] at h; exact ⟨g, o, cap, h, hc⟩
theorem row_slice {w : World} {v : Value} {n : Nat} {xs : List Value} (h : Row w v n xs) : ∃ x c, v = .slice x n c := by
  rcases h with ⟨h, rfl⟩ | ⟨g, o, p, cap, h, _⟩
  · exact ⟨_, _, h⟩
  · exact ⟨_, _, h⟩
theorem qC_at {xs : List Qn} {k : Nat} (hk : k < xs.length) (i : Nat) (hi : i < 3) : (qC xs)[k * 3 + i]? = (qV xs[k])[i]? := flat_get (f := qV) (z := 3) (fun _ => rfl) xs k hk i hi
theorem rC_at {xs : List Rc} {k : Nat} (hk : k < xs.length) (i : Nat) (hi : i < 5) : (rC xs)[k * 5 + i]? = (rV xs[k])[i]? := flat_get (f := rV) (z := 5) (fun _ => rfl) xs k hk i hi
/-- The cells of one element. -/
theorem q_cells {w : World} {g o : Nat} {xs : List Qn} (hc : ∀ j u, (qC xs)[j]? = some u → w.cell? ⟨g, o + j, none⟩ = some u) {k : Nat} (hk : k < xs.length) :
    w.cell? ⟨g, o + k * 3, none⟩ = some (.string xs[k].n) ∧ w.cell? ⟨g, o + k * 3 + 1, none⟩ = some (.int .i64 xs[k].t) ∧ w.cell? ⟨g, o + k * 3 + 2, none⟩ = some (.int .i64 xs[k].c) :=
  ⟨hc _ _ (qC_at hk 0 (by decide)), hc _ _ (qC_at hk 1 (by decide)), hc _ _ (qC_at hk 2 (by decide))⟩
theorem r_cells {w : World} {g o : Nat} {xs : List Rc} (hc : ∀ j u, (rC xs)[j]? = some u → w.cell? ⟨g, o + j, none⟩ = some u) {k : Nat} (hk : k < xs.length) :
    w.cell? ⟨g, o + k * 5, none⟩ = some (.string xs[k].n) ∧ w.cell? ⟨g, o + k * 5 + 1, none⟩ = some (.int .i64 xs[k].t) ∧ w.cell? ⟨g, o + k * 5 + 2, none⟩ = some (.int .i64 xs[k].c) ∧ w.cell? ⟨g, o + k * 5 + 3, none⟩ = some (.int .i64 xs[k].l) ∧ w.cell? ⟨g, o + k * 5 + 4, none⟩ = some (.string xs[k].d) :=
  ⟨hc _ _ (rC_at hk 0 (by decide)), hc _ _ (rC_at hk 1 (by decide)), hc _ _ (rC_at hk 2 (by decide)), hc _ _ (rC_at hk 3 (by decide)), hc _ _ (rC_at hk 4 (by decide))⟩
/-- A message as values. -/
def msgC (h : Hd) (v0 v1 v2 v3 : Value) : Array Value := #[.int .i64 h.id, .bool h.qr, .int .i64 h.op, .bool h.aa, .bool h.tc, .bool h.rd, .bool h.ra, .int .i64 h.z, .int .i64 h.rc, v0, v1, v2, v3]
/-- No message. -/
def hdZ : Hd := ⟨0, false, 0, false, false, false, false, 0, 0⟩
def msZ : Ms := ⟨hdZ, [], [], [], []⟩
theorem own_base {w : World} {B B' e z n : Nat} {v : Value} {xs : List Value} (h : w.ownsRow B e z v n xs) (hB : B' ≤ B) : w.ownsRow B' e z v n xs := by
  refine ⟨h.1, ?_⟩
  rcases h.2 with h1 | ⟨g, cap, cur, h1, h2, rest⟩
  · exact .inl h1
  · exact .inr ⟨g, cap, cur, h1, Nat.le_trans hB h2, rest⟩
theorem own_past {w w' : World} {B e z n : Nat} {v : Value} {xs : List Value} (h : w.ownsRow B e z v n xs) (hb : Below w.heap.size w w') : w'.ownsRow B e z v n xs := Turn.row (S := fun _ => False) (Turn.of_below hb) h (fun _ _ => id)
/-- A row that was laid as it is. -/
theorem Row.of_blk {w : World} {g : Nat} {C : Array Value} {t : TypeId} (h : Blk w g C t) {xs : List Value} (hx : C.toList = xs) (n cap : Nat) : Row w (.slice (some ⟨g, 0, none⟩) n cap) n xs := by
  refine .inr ⟨g, 0, none, cap, rfl, fun _ => rfl, fun j u hu => ?_⟩
  rw [Nat.zero_add, h.cell j, ← hu, ← hx]; simp
theorem Row.nil (w : World) (xs : List Value) : Row w (.slice none 0 0) 0 xs := .inl ⟨rfl, rfl⟩
theorem QRow.nil (w : World) : QRow w (.slice none 0 0) [] := ⟨Row.nil _ _, by decide, fun q h => by simp at h⟩
theorem RRow.nil (w : World) : RRow w (.slice none 0 0) [] := ⟨Row.nil _ _, by decide, fun q h => by simp at h⟩
theorem small100 {n : Nat} (h : n ≤ 100000) : n ≤ maxLen := by unfold maxLen; omega
theorem toArr_size (l : List UInt8) : (⟨l.toArray⟩ : ByteArray).size = l.length := by show l.toArray.size = _; simp
/-- Bytes of nought. -/
def zerosB (n : Nat) : ByteArray := ⟨(List.replicate n (0 : UInt8)).toArray⟩
theorem zerosB_size (n : Nat) : (zerosB n).size = n := by unfold zerosB; rw [toArr_size]; simp
/-- The cells at place f of each element are numbers. -/
def Ints (xs : List Value) (z f n : Nat) : Prop := ∀ j, j < n → ∃ t, xs[j * z + f]? = some (.int .i64 t)
theorem Ints.set {xs : List Value} {z f n : Nat} (h : Ints xs z f n) (i : Nat) (x : Int) : Ints (xs.set i (.int .i64 x)) z f n := by
  intro j hj
  obtain ⟨t, ht⟩ := h j hj
  by_cases e : i = j * z + f
  · subst e
    exact ⟨x, List.getElem?_set_self (List.getElem?_eq_some_iff.1 ht).1⟩
  · exact ⟨t, by rw [List.getElem?_set_ne e]; exact ht⟩
theorem own_len {w : World} {B e z n n0 k0 : Nat} {y : Option Addr} {xs : List Value} (h : w.ownsRow B e z (.slice y n0 k0) n xs) : n0 = n := by
  rcases h.2 with ⟨h1, h2⟩ | ⟨g, cap, cur, h1, _⟩
  · simp at h1; omega
  · simp at h1; exact h1.2.1
theorem own_apart {w : World} {B B' e e' z z' n n' : Nat} {v v' : Value} {xs xs' : List Value} (h : w.ownsRow B e z v n xs) (h' : w.ownsRow B' e' z' v' n' xs') (he : e ≠ e') {k : Nat} (hk : v.ownBlock = some k) : v'.ownBlock ≠ some k := by
  intro hk'
  rcases h.2 with ⟨h1, _⟩ | ⟨g, cap, cur, h1, _, hg, _⟩
  · rw [h1] at hk; simp [Value.ownBlock] at hk
  · rcases h'.2 with ⟨h2, _⟩ | ⟨g', cap', cur', h2, _, hg', _⟩
    · rw [h2] at hk'; simp [Value.ownBlock] at hk'
    · rw [h1] at hk
      rw [h2] at hk'
      simp [Value.ownBlock] at hk hk'
      subst hk hk'
      rw [hg] at hg'
      simp at hg'
      exact he hg'.2
theorem ext_list (s : ByteArray) (i j : Nat) : (s.extract i j).data.toList = (s.data.toList.drop i).take (j - i) := by simp [List.extract_eq_take_drop]
theorem ext_to (s : ByteArray) (i : Nat) : (s.extract 0 i).data.toList = s.data.toList.take i := by rw [ext_list]; simp
theorem cut_to (s : ByteArray) (k : Nat) (c : Int) (hc : c = (k : Int)) (h : k ≤ s.size) (u : World) : (Instr.slice 9 (.string s) none (some (.int .i64 c)) none).run Tryz.prog u = .ok (.string (s.extract 0 k)) u := by
  subst hc
  have := run_slice_string_h (P := Tryz.prog) (w := u) (t := 9) (s := s) Tryz.underlying9 .i64 (k : Int) (by omega) (by omega)
  rw [this]; rfl
theorem int_cells : Tryz.prog.cellsOf 3 = 1 := by kernel_rfl
theorem bool_cells : Tryz.prog.cellsOf 4 = 1 := by kernel_rfl
/-- What is left where no message is given. -/
theorem blk13 {w : World} {g : Nat} {h : Hd} {v0 v1 v2 v3 : Value} {t : TypeId} (k : Blk w g (msgC h v0 v1 v2 v3) t) :
    w.cell? ⟨g, 0, none⟩ = some (.int .i64 h.id) ∧ w.cell? ⟨g, 1, none⟩ = some (.bool h.qr) ∧ w.cell? ⟨g, 2, none⟩ = some (.int .i64 h.op) ∧ w.cell? ⟨g, 3, none⟩ = some (.bool h.aa) ∧ w.cell? ⟨g, 4, none⟩ = some (.bool h.tc) ∧ w.cell? ⟨g, 5, none⟩ = some (.bool h.rd) ∧ w.cell? ⟨g, 6, none⟩ = some (.bool h.ra) ∧ w.cell? ⟨g, 7, none⟩ = some (.int .i64 h.z) ∧ w.cell? ⟨g, 8, none⟩ = some (.int .i64 h.rc) ∧
    w.cell? ⟨g, 9, none⟩ = some v0 ∧ w.cell? ⟨g, 10, none⟩ = some v1 ∧ w.cell? ⟨g, 11, none⟩ = some v2 ∧ w.cell? ⟨g, 12, none⟩ = some v3 :=
  ⟨k.cell 0, k.cell 1, k.cell 2, k.cell 3, k.cell 4, k.cell 5, k.cell 6, k.cell 7, k.cell 8, k.cell 9, k.cell 10, k.cell 11, k.cell 12⟩
theorem open13 {w : World} {g : Nat} {C : Array Value} {t : TypeId} (k : Blk w g C t) :
    w.frozen? ⟨g, 0, none⟩ = false ∧ w.frozen? ⟨g, 1, none⟩ = false ∧ w.frozen? ⟨g, 2, none⟩ = false ∧ w.frozen? ⟨g, 3, none⟩ = false ∧ w.frozen? ⟨g, 4, none⟩ = false ∧ w.frozen? ⟨g, 5, none⟩ = false ∧ w.frozen? ⟨g, 6, none⟩ = false ∧ w.frozen? ⟨g, 7, none⟩ = false ∧ w.frozen? ⟨g, 8, none⟩ = false ∧ w.frozen? ⟨g, 9, none⟩ = false ∧ w.frozen? ⟨g, 10, none⟩ = false ∧ w.frozen? ⟨g, 11, none⟩ = false ∧ w.frozen? ⟨g, 12, none⟩ = false :=
  ⟨k.frozen 0, k.frozen 1, k.frozen 2, k.frozen 3, k.frozen 4, k.frozen 5, k.frozen 6, k.frozen 7, k.frozen 8, k.frozen 9, k.frozen 10, k.frozen 11, k.frozen 12⟩

end Go.Proofs.YtnjgdfmldjgloaaGreat

/- Rows that are appended to each other; a region that draws its order; copies of strings. -/
namespace Go.Proofs.YtnjgdfmldjgloaaGreat
open Go.RowKit

/-- What an append reads of. -/
theorem Row.src {w : World} {v : Value} {n : Nat} {xs : List Value} (h : Row w v n xs) : ∃ x0 c, v = .slice x0 n c ∧ (n = 0 ∨ ∃ ad, x0 = some ad ∧ ∀ j u, xs[j]? = some u → w.cell? (ad.add j) = some u) := by
  by_cases hn : n = 0
  · subst hn
    obtain ⟨x, c, hv⟩ := row_none h
    exact ⟨x, c, hv, .inl rfl⟩
  · obtain ⟨g, o, cap, hv, hc⟩ := row_at h (by omega)
    refine ⟨_, _, hv, .inr ⟨_, rfl, fun j u hu => ?_⟩⟩
    have : (⟨g, o, none⟩ : Addr).add j = ⟨g, o + j, none⟩ := by unfold Addr.add; split <;> simp_all
    rw [this]
    exact hc j u hu
/-- How many have not come up. -/
def unl (l : List Bool) : Nat := (l.filter (fun b => !b)).length
theorem unl_set : ∀ (l : List Bool) (i : Nat), l[i]? = some false → unl (l.set i true) + 1 = unl l := by
  intro l
  induction l with
  | nil => intro i h; simp at h
  | cons b l ih =>
    intro i h
    cases i with
    | zero =>
      simp at h
      subst h
      simp [unl]
    | succ i =>
      have := ih i (by simpa using h)
      unfold unl at this ⊢
      cases b <;> simp [List.set_cons_succ] <;> simpa using this
theorem getD_false {l : Array Bool} {i : Nat} (h : l.getD i true = false) : l.toList[i]? = some false := by
  rw [Array.getD_eq_getD_getElem?] at h
  rw [Array.getElem?_toList]
  cases e : l[i]? with
  | none => rw [e] at h; simp at h
  | some b => rw [e] at h; simp at h; rw [h]
section
variable {P : Program} {md : Region.Mode} {ops : Array Oper} {Q : Exit → Act → World → Prop} {S : World → Prop}
/-- A region that draws its order: what holds behind each operation, whichever comes up. -/
theorem wpAnyH_inv (J : Array Bool → Act → World → Prop) (hS : ∀ l a w, J l a w → S w)
    (hstep : ∀ l a w, J l a w → ∀ i, l.getD i true = false → ∀ o, ops[i]? = some o → (∀ e ∈ o.after, Region.binds md e = true → l.getD e.on false = true) →
      ∀ K : Act → World → Prop, (∀ a' w', J (l.setIfInBounds i true) a' w' → K a' w') → if Region.wanted o (yielded ops a.tmps) = true then Oper.wp P o a w K Q else K (a.put o.dst undef) w)
    (hend : ∀ l a w, J l a w → Region.ready md ops l = [] → Q .normal a w) :
    ∀ fuel l a w, unl l.toList ≤ fuel → J l a w → wpAnyH P md ops Q S fuel l a w := by
  intro fuel
  induction fuel with
  | zero =>
    intro l a w hf hJ
    have hr : Region.ready md ops l = [] := by
      apply List.eq_nil_iff_forall_not_mem.2
      intro i hi
      have h1 := unl_set _ _ (getD_false (mem_ready.1 hi).1)
      omega
    exact ⟨hr, hend l a w hJ hr⟩
  | succ fuel ih =>
    intro l a w hf hJ
    refine ⟨hend l a w hJ, fun i hi => ?_⟩
    obtain ⟨hun, o, ho, hall⟩ := mem_ready.1 hi
    refine wpOp_step ho fun K hK => hstep l a w hJ i hun o ho hall K fun a' w' hJ' => hK a' w' ⟨hS _ _ _ hJ', ih _ a' w' ?_ hJ'⟩
    have h1 := unl_set _ _ (getD_false hun)
    rw [Array.toList_setIfInBounds]
    omega
end
theorem ready_nil {md : Region.Mode} {ops : Array Oper} {l : Array Bool} (htop : (List.range ops.size).all (fun i => ((ops[i]?).map (fun o => o.after.all (fun e => decide (e.on < i)))).getD true) = true) (hsz : l.size = ops.size) (hr : Region.ready md ops l = []) : ∀ i, l.getD i true = true := by
  intro i
  induction i using Nat.strongRecOn with
  | _ i ih =>
    cases hi : l.getD i true with
    | true => rfl
    | false =>
      have hlt : i < l.size := by
        rcases Nat.lt_or_ge i l.size with h | h
        · exact h
        · rw [Array.getD_eq_getD_getElem?, Array.getElem?_eq_none h] at hi
          simp at hi
      have ho : ops[i]? = some ops[i] := Array.getElem?_eq_getElem (by omega)
      have ht := List.all_eq_true.1 htop i (List.mem_range.2 (by omega))
      rw [ho] at ht
      simp only [Option.map_some, Option.getD_some, Array.all_eq_true_iff_forall_mem, decide_eq_true_eq] at ht
      have hm : i ∈ Region.ready md ops l := mem_ready.2 ⟨hi, _, ho, fun e he _ => by
        have h1 := ih e.on (ht e he)
        have h2 : e.on < l.size := by have := ht e he; omega
        rw [Array.getD_eq_getD_getElem?, Array.getElem?_eq_getElem h2] at h1 ⊢
        simpa using h1⟩
      rw [hr] at hm
      cases hm
/-- A row that a copy has: an empty one, or one that the call owns. -/
def CRow (B : Nat) (w : World) (e z : Nat) (v : Value) (n : Nat) (xs : List Value) : Prop := (n = 0 ∧ xs = [] ∧ ∃ g, v = .slice (some g) 0 0) ∨ w.ownsRow B e z v n xs
theorem CRow.below {B : Nat} {w w' : World} {e z : Nat} {v : Value} {n : Nat} {xs : List Value} (h : CRow B w e z v n xs) (hb : Below w.heap.size w w') : CRow B w' e z v n xs := h.imp id (fun o => own_past o hb)
theorem CRow.turn {B g : Nat} {w w' : World} {e z : Nat} {v : Value} {n : Nat} {xs : List Value} (h : CRow B w e z v n xs) (ht : Turn (fun k => k = g) w w') (hg : g < B) : CRow B w' e z v n xs := h.imp id (fun o => ht.row o (fun k hk e => by have := (o.lt k hk).1; omega))
theorem CRow.row {B : Nat} {w : World} {e z : Nat} {v : Value} {n : Nat} {xs : List Value} (h : CRow B w e z v n xs) : Row w v n xs := by
  rcases h with ⟨rfl, rfl, g, rfl⟩ | h
  · exact .inr ⟨g.block, g.off, g.spot, 0, rfl, fun h => by omega, fun j u hu => by simp at hu⟩
  · exact Row.of_own h
theorem grown_below {w w' : World} (h : w.grownBy w' none) : Below w.heap.size w w' := (Below.refl _ _).grown h (Nat.le_refl _) (fun _ e => by simp at e)
/-- A row is appended to an empty one without room. -/
theorem step_copy {P : Program} {ops : Array Oper} {o : Oper} {a : Act} {w : World} {K : Act → World → Prop} {Q : Exit → Act → World → Prop} {E : Prop}
    (hgd : o.guard = none) (s x : Operand) (t : TypeId) (ho : o.op = Op.call { callee := Callee.builtin Builtin.append, args := #[s, x], argTypes := #[t, t] })
    (B : Nat) (e : TypeId) (i : TypeInfo) (z : Value) (size bytes : Nat) (h1 : P.underlying t = some (.slice e)) (h2 : P.info? e = some i) (h3 : i.zero = some z) (h4 : i.size = size) (h5 : i.bytes = bytes) (h6 : z.cells.size = size) (h7 : 0 < size)
    (g : Addr) (hs : a.eval s = .slice (some g) 0 0) (v : Value) (n : Nat) (xs : List Value) (hx : a.eval x = v) (hrow : Row w v n xs) (hl : xs.length = n * size) (h1c : ∀ u ∈ xs, u.oneCell' = true) (hb : n * bytes ≤ 140737488355328) (hm : n ≤ maxLen) (hB : B ≤ w.heap.size)
    (hK : ∀ v' w', CRow B w' e size v' n xs → Below w.heap.size w w' → K (a.put o.dst v') w') :
    if Region.wanted o (yielded ops a.tmps) = true then Oper.wp P o a w K Q else E := by
  obtain ⟨x0, c, rfl, hc⟩ := hrow.src
  by_cases hn : n = 0
  · subst hn
    have hxs : xs = [] := List.eq_nil_of_length_eq_zero (by simpa using hl)
    subst hxs
    have hw : Region.wanted o (yielded ops a.tmps) = true := by simp [Region.wanted, hgd]
    rw [if_pos hw]
    have hsrc : Src P i.size t (.slice x0 0 c) 0 [] w := by
      cases x0 with
      | none => exact Src.ofNil w h1 c
      | some ad => exact Src.ofSlice w h1 ad 0 c [] (by simp) (fun j u hu => by simp at hu) (fun u hu => by cases hu)
    have hrun := run_append_nothing (P := P) w t t o.type e i h1 h2 (some g) 0 0 (Nat.le_refl _) _ hsrc
    unfold Oper.wp
    simp only [execOp, ho, resolve, invoke, builtin, Sem.run_bind, Sem.run_pure, Result.andThen_ok, List.map_toArray, List.map_cons, List.map_nil, hs, hx, hrun]
    exact hK _ w (.inl ⟨rfl, rfl, g, rfl⟩) (Below.refl _ _)
  · rcases hc with h0 | ⟨ad, rfl, hcell⟩
    · exact absurd h0 hn
    refine step_append_grows hgd s x t ho e i z size bytes h1 h2 h3 h4 h5 h6 h7 (some g) 0 0 [] hs (fun e => by cases e) (by simp) (fun b _ j u hu => by simp at hu) ad n c xs hx hl hcell h1c (by omega) (by omega) (by rw [Nat.zero_add]; exact hb) (fun v' w' ow gr => ?_)
    rw [Nat.zero_add, List.nil_append] at ow
    exact hK v' w' (.inr (own_base ow hB)) (grown_below gr)
/-- So many bytes of nought are made, and become a string. -/
theorem madeN (n : Nat) (hn : n ≤ 100000) : ∃ Zc : Array Value, (∀ u : World, (Instr.makeSlice 110 (.int .i64 (n : Int)) (.int .i64 (n : Int))).run Tryz.prog u = .ok (.slice (some ⟨u.heap.size, 0, none⟩) n n) (u.alloc (.cells Zc 5))) ∧
    ∀ (u : World), (convert 110 9 (.slice (some ⟨u.heap.size, 0, none⟩) n n)).run Tryz.prog (u.alloc (.cells Zc 5)) = .ok (.string (zerosB n)) (u.alloc (.cells Zc 5)) := by
  obtain ⟨i0, hi, hz0, hz1, hz2⟩ := info_parts info5
  refine ⟨((List.replicate n (0 : UInt8)).map bv).toArray, fun u => ?_, fun u => ?_⟩
  · have := run_make (P := Tryz.prog) u 110 5 i0 (.int .u8 0) Tryz.underlying110 hi hz0 .i64 .i64 (n : Int) (n : Int) (by omega) (by omega) (by rw [hz2]; omega) (by omega)
    rw [hz1, show (Value.int .u8 0).cells = #[.int .u8 0] from rfl, Nat.mul_one, Int.toNat_natCast, made_zero] at this
    exact this
  · have := conv_lit (List.replicate n 0) u
    rw [List.length_replicate] at this
    exact this

/-- Elements are appended to a row that the call owns, out of a row that lies anywhere; there may be none. -/
theorem wpList_appG (w : World) {ops : Array Oper} {rest : List Oper} {o : Oper} {a : Act} {Q : Exit → Act → World → Prop} (hgd : o.guard = none) (s x : Operand) (t e : TypeId) (i : TypeInfo) (z : Value) (size bytes : Nat)
    (h1 : Tryz.prog.underlying t = some (.slice e)) (h2 : Tryz.prog.info? e = some i) (h3 : i.zero = some z) (h4 : i.size = size) (h5 : i.bytes = bytes) (h6 : z.cells.size = size) (h7 : 0 < size)
    (ho : o.op = .call { callee := .builtin .append, args := #[s, x], argTypes := #[t, t] }) (base : Nat) (v : Value) (n : Nat) (xs : List Value) (hs : a.eval s = v) (hown : w.ownsRow base e size v n xs)
    (u : Value) (m : Nat) (ys : List Value) (hx : a.eval x = u) (hrow : Row w u m ys) (hl : ys.length = m * size) (h1c : ∀ y ∈ ys, y.oneCell' = true) (hb : (n + m) * bytes ≤ 140737488355328) (hm : n + m ≤ maxLen) (hbase : base ≤ w.heap.size)
    (h : ∀ v' w', w'.ownsRow base e size v' (n + m) (xs ++ ys) → w.grownBy w' v.ownBlock → (∀ k, v'.ownBlock = some k → v.ownBlock = some k ∨ w.heap.size ≤ k) → wpList Tryz.prog ops Q rest (a.put o.dst v') w') :
    wpList Tryz.prog ops Q (o :: rest) a w := by
  obtain ⟨x0, c, rfl, hc⟩ := hrow.src
  by_cases hm0 : m = 0
  · subst hm0
    have hys : ys = [] := List.eq_nil_of_length_eq_zero (by simpa using hl)
    subst hys
    refine wpList_plain hgd fun K hK => ?_
    have hsrc : Src Tryz.prog i.size t (.slice x0 0 c) 0 [] w := by
      cases x0 with
      | none => exact Src.ofNil w h1 c
      | some ad => exact Src.ofSlice w h1 ad 0 c [] (by simp) (fun j u hu => by simp at hu) (fun u hu => by cases hu)
    have hv : ∃ b l k, v = .slice b l k ∧ l ≤ k := by
      rcases hown.2 with ⟨rfl, rfl⟩ | ⟨g, cap, cur, rfl, _, _, hnc, _⟩
      · exact ⟨_, _, _, rfl, Nat.le_refl _⟩
      · exact ⟨_, _, _, rfl, hnc⟩
    obtain ⟨b, l, k, hv, hlk⟩ := hv
    have hrun := run_append_nothing (P := Tryz.prog) w t t o.type e i h1 h2 b l k hlk _ hsrc
    rw [← hv] at hrun
    unfold Oper.wp
    simp only [execOp, ho, resolve, invoke, builtin, Sem.run_bind, Sem.run_pure, Result.andThen_ok, List.map_toArray, List.map_cons, List.map_nil, hs, hx, hrun]
    exact hK _ _ (h v w (by simpa using hown) (World.grownBy.refl w _) (fun k hk => .inl hk))
  · rcases hc with h0 | ⟨ad, rfl, hcell⟩
    · exact absurd h0 hm0
    refine wpList_append_lies w hgd s x t ho base e i z size bytes h1 h2 h3 h4 h5 h6 h7 v n xs hs hown ad m c ys hx hl hcell h1c (by omega) hm (by omega) hbase _ rfl ?_
    intro g cap w' g1 g2 g3 g4
    refine h _ w' g1 g2 (fun k hk => ?_)
    rcases g3 with g3 | g3
    · exact .inl (by rw [g3]; exact hk)
    · have : k = g := by simp [Value.ownBlock] at hk; exact hk.symm
      exact .inr (by omega)

/-- The same in a region that draws its order. -/
theorem step_appG (w : World) {ops : Array Oper} {o : Oper} {a : Act} {K : Act → World → Prop} {Q : Exit → Act → World → Prop} {E : Prop} (hgd : o.guard = none) (s x : Operand) (t e : TypeId) (i : TypeInfo) (z : Value) (size bytes : Nat)
    (h1 : Tryz.prog.underlying t = some (.slice e)) (h2 : Tryz.prog.info? e = some i) (h3 : i.zero = some z) (h4 : i.size = size) (h5 : i.bytes = bytes) (h6 : z.cells.size = size) (h7 : 0 < size)
    (ho : o.op = .call { callee := .builtin .append, args := #[s, x], argTypes := #[t, t] }) (base : Nat) (v : Value) (n : Nat) (xs : List Value) (hs : a.eval s = v) (hown : w.ownsRow base e size v n xs)
    (u : Value) (m : Nat) (ys : List Value) (hx : a.eval x = u) (hrow : Row w u m ys) (hl : ys.length = m * size) (h1c : ∀ y ∈ ys, y.oneCell' = true) (hb : (n + m) * bytes ≤ 140737488355328) (hm : n + m ≤ maxLen) (hbase : base ≤ w.heap.size)
    (h : ∀ v' w', w'.ownsRow base e size v' (n + m) (xs ++ ys) → w.grownBy w' v.ownBlock → (∀ k, v'.ownBlock = some k → v.ownBlock = some k ∨ w.heap.size ≤ k) → K (a.put o.dst v') w') :
    if Region.wanted o (yielded ops a.tmps) = true then Oper.wp Tryz.prog o a w K Q else E := by
  have hw : Region.wanted o (yielded ops a.tmps) = true := by simp [Region.wanted, hgd]
  obtain ⟨x0, c, rfl, hc⟩ := hrow.src
  by_cases hm0 : m = 0
  · rw [if_pos hw]
    subst hm0
    have hys : ys = [] := List.eq_nil_of_length_eq_zero (by simpa using hl)
    subst hys
    have hsrc : Src Tryz.prog i.size t (.slice x0 0 c) 0 [] w := by
      cases x0 with
      | none => exact Src.ofNil w h1 c
      | some ad => exact Src.ofSlice w h1 ad 0 c [] (by simp) (fun j u hu => by simp at hu) (fun u hu => by cases hu)
    have hv : ∃ b l k, v = .slice b l k ∧ l ≤ k := by
      rcases hown.2 with ⟨rfl, rfl⟩ | ⟨g, cap, cur, rfl, _, _, hnc, _⟩
      · exact ⟨_, _, _, rfl, Nat.le_refl _⟩
      · exact ⟨_, _, _, rfl, hnc⟩
    obtain ⟨b, l, k, hv, hlk⟩ := hv
    have hrun := run_append_nothing (P := Tryz.prog) w t t o.type e i h1 h2 b l k hlk _ hsrc
    rw [← hv] at hrun
    unfold Oper.wp
    simp only [execOp, ho, resolve, invoke, builtin, Sem.run_bind, Sem.run_pure, Result.andThen_ok, List.map_toArray, List.map_cons, List.map_nil, hs, hx, hrun]
    exact h v w (by simpa using hown) (World.grownBy.refl w _) (fun k hk => .inl hk)
  · rcases hc with h0 | ⟨ad, rfl, hcell⟩
    · exact absurd h0 hm0
    refine step_append_lies w hgd s x t ho base e i z size bytes h1 h2 h3 h4 h5 h6 h7 v n xs hs hown ad m c ys hx hl hcell h1c (by omega) hm (by omega) hbase _ rfl ?_
    intro g cap w' g1 g2 g3 g4
    refine h _ w' g1 g2 (fun k hk => ?_)
    rcases g3 with g3 | g3
    · exact .inl (by rw [g3]; exact hk)
    · have : k = g := by simp [Value.ownBlock] at hk; exact hk.symm
      exact .inr (by omega)

/-- A block that was laid, as a row of the call's own. -/
theorem own_blk {w : World} {g B z n : Nat} {C : Array Value} {t : TypeId} {xs : List Value} (h : Blk w g C t) (hB : B ≤ g) (hx : C.toList = xs) (hl : xs.length = n * z) (hn : n ≤ maxLen) : w.ownsRow B t z (.slice (some ⟨g, 0, none⟩) n n) n xs := by
  have hs : C.size = n * z := by rw [← Array.length_toList, hx, hl]
  exact ⟨hl, .inr ⟨g, n, C, rfl, hB, h, Nat.le_refl _, hn, hs, by rw [← hx, List.take_of_length_le (by rw [Array.length_toList, hs]; exact Nat.le_refl _)]⟩⟩

end Go.Proofs.YtnjgdfmldjgloaaGreat
