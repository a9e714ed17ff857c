/- Plain functions on bytes that tell what names and their texts are, with no word of the program. -/
import Derived.Test.YtbffnicfibfceaaRows
import Derived.WalkKit
import Derived.WalkMore
import Derived.Deep.LoopGhost
import Derived.OwnWalk
import Derived.Deep.AppendLies
import Derived.Laws.IdiomStrings
import Derived.Laws.BytesArg
import Derived.Laws.Concat
import Derived.Laws.AppendOwnNone
import Derived.Deep.QuietTactic
import Derived.BigQuiet
import Derived.LoopN
import Derived.Lib.BufferWrite
import Derived.Lib.UnsafeStr
import Derived.Laws.MakeOwn
import Derived.Deep.DeepMust
import Derived.Deep.RegionWith
import Derived.Laws.Bits128
import Derived.WalkSpells
namespace Go.Proofs.Ytbffnicfibfceaa.Pl

/-- Does a byte stand as it is? -/
def standsB (c : Int) : Bool := decide (33 ≤ c ∧ c ≤ 126 ∧ c ≠ 46 ∧ c ≠ 92)

/-- May a label have so many bytes? -/
def sizeB (n : Int) : Bool := decide (1 ≤ n ∧ n ≤ 63)

/-- The labels of a name's bytes; the first number: how many bytes of a label are still to come. -/
def nmS : Nat → List UInt8 → Option Nat
  | _, [] => none
  | 0, c :: r => if c.toNat = 0 then (if r.length = 0 then some 0 else none) else if 63 < c.toNat then none else (nmS c.toNat r).map (· + 1)
  | k + 1, _ :: r => nmS k r

/-- How many labels a name has; none of what is no name. -/
def nm (l : List UInt8) : Option Nat := if 255 < l.length then none else nmS 0 l

def isName (l : List UInt8) : Bool := (nm l).isSome
def cnt (l : List UInt8) : Nat := (nm l).getD 0

theorem nmS_drop (k : Nat) (l : List UInt8) : nmS k l = nmS 0 (l.drop k) := by
  induction l generalizing k with
  | nil => simp [nmS]
  | cons c r ih =>
    cases k with
    | zero => rfl
    | succ k => rw [nmS, ih]; rfl

theorem drop_at (l : List UInt8) (p : Nat) (h : p < l.length) : l.drop p = l[p] :: l.drop (p + 1) := List.drop_eq_getElem_cons h

/-- The walk over the labels stands at p, and c labels lie behind it. -/
def At (l : List UInt8) (p c : Nat) : Prop := nmS 0 l = (nmS 0 (l.drop p)).map (· + c)

theorem at_start (l : List UInt8) : At l 0 0 := by simp [At]

theorem at_step {l : List UInt8} {p c : Nat} (h : At l p c) (hp : p < l.length) (h0 : l[p].toNat ≠ 0) (h1 : l[p].toNat ≤ 63) : At l (p + (1 + l[p].toNat)) (c + 1) := by
  unfold At at *
  rw [h, drop_at l p hp, nmS, if_neg h0, if_neg (by omega), nmS_drop, List.drop_drop]
  rw [show p + (1 + l[p].toNat) = p + 1 + l[p].toNat from by omega, Option.map_map]
  congr 1
  funext x
  simp [Function.comp]
  omega

theorem at_great {l : List UInt8} {p c : Nat} (h : At l p c) (hp : p < l.length) (h1 : 63 < l[p].toNat) : nmS 0 l = none := by
  unfold At at *
  rw [h, drop_at l p hp, nmS, if_neg (by omega), if_pos h1]; rfl

theorem at_past {l : List UInt8} {p c : Nat} (h : At l p c) (hp : l.length ≤ p) : nmS 0 l = none := by
  unfold At at *
  rw [h, List.drop_of_length_le hp]; rfl

theorem at_end {l : List UInt8} {p c : Nat} (h : At l p c) (hp : p < l.length) (h0 : l[p].toNat = 0) : nmS 0 l = if p + 1 = l.length then some c else none := by
  unfold At at *
  rw [h, drop_at l p hp, nmS, if_pos h0]
  by_cases e : p + 1 = l.length
  · rw [if_pos e, if_pos (by simp; omega)]; simp
  · rw [if_neg e, if_neg (by simp; omega)]; rfl

theorem nm_short {l : List UInt8} (h : l.length ≤ 255) : nm l = nmS 0 l := by unfold nm; rw [if_neg (by omega)]

/-- The text of a label's byte. -/
def esc (b : UInt8) : List UInt8 :=
  if standsB b.toNat then [b] else [92, UInt8.ofNat (48 + b.toNat / 100), UInt8.ofNat (48 + b.toNat / 10 % 10), UInt8.ofNat (48 + b.toNat % 10)]

/-- A digit? -/
def dig (c : UInt8) : Bool := decide (48 ≤ c.toNat ∧ c.toNat ≤ 57)
/-- What three digits tell. -/
def val3 (x y z : UInt8) : Nat := ((x.toNat - 48) * 10 + (y.toNat - 48)) * 10 + (z.toNat - 48)
/-- Do three bytes tell a byte that does not stand as it is? -/
def tells (x y z : UInt8) : Bool := dig x && dig y && dig z && decide (val3 x y z ≤ 255) && !standsB (val3 x y z)
/-- What three digits at a text's head tell. -/
def rbTail : List UInt8 → Option (UInt8 × Nat)
  | x :: y :: z :: _ => if tells x y z then some (UInt8.ofNat (val3 x y z), 4) else none
  | _ => none
/-- The byte with whose text a text begins, and that text's width. -/
def rb : List UInt8 → Option (UInt8 × Nat)
  | [] => none
  | c :: r => if standsB c.toNat then some (c, 1) else if c.toNat ≠ 92 then none else rbTail r

theorem rb_stands {c : UInt8} {r : List UInt8} (h : standsB c.toNat = true) : rb (c :: r) = some (c, 1) := by rw [rb, if_pos h]
theorem rb_other {c : UInt8} {r : List UInt8} (h : standsB c.toNat = false) (h2 : c.toNat ≠ 92) : rb (c :: r) = none := by rw [rb, if_neg (by simp [h]), if_pos h2]
theorem rb_short {c : UInt8} {r : List UInt8} (h : standsB c.toNat = false) (h2 : r.length < 3) : rb (c :: r) = none := by
  rw [rb, if_neg (by simp [h])]
  split
  · rfl
  · match r, h2 with
    | [], _ => rfl
    | [_], _ => rfl
    | [_, _], _ => rfl
theorem rb_tells {c x y z : UInt8} {r : List UInt8} (h : standsB c.toNat = false) (h2 : c.toNat = 92) : rb (c :: x :: y :: z :: r) = if tells x y z then some (UInt8.ofNat (val3 x y z), 4) else none := by
  rw [rb, if_neg (by simp [h]), if_neg (by simp [h2]), rbTail]

/-- The text of a name's bytes; the first number: how many bytes of a label are still to come. -/
def txS : Nat → List UInt8 → List UInt8
  | _, [] => []
  | 0, c :: r => if c.toNat = 0 then [] else txS c.toNat r
  | 1, b :: r => esc b ++ 46 :: txS 0 r
  | k + 2, b :: r => esc b ++ txS (k + 1) r

theorem txS_label (k : Nat) (r : List UInt8) (h : k + 1 ≤ r.length) : txS (k + 1) r = (r.take (k + 1)).flatMap esc ++ 46 :: txS 0 (r.drop (k + 1)) := by
  induction k generalizing r with
  | zero =>
    match r, h with
    | b :: r, _ => simp [txS]
  | succ k ih =>
    match r, h with
    | b :: r, h =>
      rw [txS, ih r (by simpa using h)]
      simp

/-- The text of what is a name; of what is none nothing is said. -/
def tx (l : List UInt8) : List UInt8 := if l.length = 1 then [46] else txS 0 l

/-- From p on a name goes on, and ahead of it lies the text 'done'. -/
def TxAt (l : List UInt8) (p : Nat) (done : List UInt8) : Prop := (nmS 0 (l.drop p)).isSome = true ∧ txS 0 l = done ++ txS 0 (l.drop p)

theorem txAt_start {l : List UInt8} (h : (nmS 0 l).isSome = true) : TxAt l 0 [] := ⟨h, rfl⟩

theorem nmS_cut {k : Nat} {l : List UInt8} (h : (nmS k l).isSome = true) : k < l.length := by
  induction l generalizing k with
  | nil => simp [nmS] at h
  | cons c r ih =>
    cases k with
    | zero => simp
    | succ k => rw [nmS] at h; have := ih h; simp; omega

theorem txAt_lt {l : List UInt8} {p : Nat} {done : List UInt8} (h : TxAt l p done) : p < l.length := by
  have := nmS_cut h.1
  simp at this
  omega

theorem txAt_end {l : List UInt8} {p : Nat} {done : List UInt8} (h : TxAt l p done) (hp : p < l.length) (h0 : l[p].toNat = 0) : txS 0 l = done := by
  rw [h.2, drop_at l p hp, txS, if_pos h0, List.append_nil]

theorem txAt_room {l : List UInt8} {p : Nat} {done : List UInt8} (h : TxAt l p done) (hp : p < l.length) (h0 : l[p].toNat ≠ 0) : l[p].toNat ≤ 63 ∧ p + 1 + l[p].toNat < l.length := by
  have h1 := h.1
  rw [drop_at l p hp, nmS, if_neg h0] at h1
  split at h1
  · simp at h1
  · rename_i h63
    have h2 : (nmS l[p].toNat (l.drop (p + 1))).isSome = true := by simpa using h1
    have := nmS_cut h2
    simp at this
    exact ⟨by omega, by omega⟩

theorem txAt_step {l : List UInt8} {p : Nat} {done : List UInt8} (h : TxAt l p done) (hp : p < l.length) (h0 : l[p].toNat ≠ 0) :
    TxAt l (p + 1 + l[p].toNat) (done ++ ((l.drop (p + 1)).take l[p].toNat).flatMap esc ++ [46]) := by
  have hr := txAt_room h hp h0
  have h1 := h.1
  have h2 := h.2
  rw [drop_at l p hp, nmS, if_neg h0, if_neg (by omega)] at h1
  refine ⟨?_, ?_⟩
  · rw [← List.drop_drop, ← nmS_drop]
    simpa using h1
  · rw [h2, drop_at l p hp, txS, if_neg h0]
    obtain ⟨k, hk⟩ : ∃ k, l[p].toNat = k + 1 := ⟨l[p].toNat - 1, by omega⟩
    rw [hk, txS_label k _ (by simp; omega), List.drop_drop]
    simp

end Go.Proofs.Ytbffnicfibfceaa.Pl

/- What May of package name and Num give, for every argument. -/
namespace Go.Proofs.Ytbffnicfibfceaa
open Go.RowKit
open Pl

theorem ret_bool {a b : Bool} (h : a = b) : Ending.returned (.bool a) = .returned (.bool b) := by rw [h]
theorem ret_int {k : IntKind} {a b : Int} (h : a = b) : Ending.returned (.int k a) = .returned (.int k b) := by rw [h]

theorem maySize_any (n : Int) (w : World) (h0 : -1000000 ≤ n) (h1 : n ≤ 1000000) :
    Calls Try.prog 70 #[.int .i64 n] w fun e w' => e = .returned (.bool (sizeB n)) ∧ w' = w := by
  go_enter Try.func70, Try.ntmps70
  go_wp2
  all_goals go_ret
  all_goals refine ⟨ret_bool ?_, rfl⟩
  · subst n; rfl
  · rw [Bool.eq_iff_iff]; simp [sizeB]; omega

theorem num_any (n : Int) (w : World) :
    Calls Try.prog 9 #[.int .i64 n] w fun e w' => e = .returned (.int .i64 n) ∧ w' = w := by
  go_enter Try.func9, Try.ntmps9
  go_wp2
  go_ret
  exact ⟨rfl, rfl⟩

theorem byte_at (s : ByteArray) (k : Nat) (h : k < s.size) : s.data.toList[k]'(by simpa using h) = s[k] := rfl

theorem ret_name {l : List UInt8} {n : Nat} (h : nm l = some n) : Ending.returned (.tuple #[.int .i64 n, .bool true]) = .returned (.tuple #[.int .i64 (cnt l), .bool (isName l)]) := by
  unfold cnt isName; rw [h]; rfl
theorem ret_noName {l : List UInt8} (h : nm l = none) : Ending.returned (.tuple #[.int .i64 0, .bool false]) = .returned (.tuple #[.int .i64 (cnt l), .bool (isName l)]) := by
  unfold cnt isName; rw [h]; rfl

theorem measure_any (s : ByteArray) (w : World) (hs : s.size ≤ maxLen) :
    Calls Try.prog 68 #[.string s] w fun e w' => e = .returned (.tuple #[.int .i64 (cnt s.data.toList), .bool (isName s.data.toList)]) ∧ w' = w := by
  unfold maxLen at hs
  have hl : s.data.toList.length = s.size := by rw [Array.length_toList]; rfl
  by_cases h : s.size ≤ 255
  · go_enter Try.func68, Try.ntmps68
    go_wp2
    go_step3
    go_wp2
    go_step3
    go_wp2
    go_loop [4, 5] (fun c i => ∃ n p : Nat, n ≤ p ∧ p ≤ 400 ∧ c = .int .i64 n ∧ i = .int .i64 p ∧ Hid (At s.data.toList p n)) (fun _ i => s.size - (intOf i).toNat)
    case atStart => exact ⟨0, 0, Nat.zero_le _, by omega, rfl, rfl, at_start _⟩
    case round =>
      obtain ⟨n, p, hnp, hp4, rfl, rfl, hat⟩ := hrel
      have hn := nm_short (l := s.data.toList) (by omega)
      have HN : Hid (nm s.data.toList = nmS 0 s.data.toList) := hn
      clear hn
      by_cases hlt : p < s.size
      · have hb := UInt8.toNat_lt (s[p])
        have hlt' : p < s.data.toList.length := by omega
        by_cases h0 : ((s[p].toNat : Int) == 0) = true
        · have hz : s[p].toNat = 0 := by simpa using h0
          have HE : Hid (nm s.data.toList = if p + 1 = s.data.toList.length then some n else none) := HN.out.trans (at_end hat hlt' hz)
          clear hz
          by_cases he : ((p : Int) != (s.size : Int) - 1) = true
          · have hne : ¬ (p + 1 = s.data.toList.length) := by simp at he; omega
            go_wp2
            go_ret2
            refine ⟨ret_noName ?_, rfl⟩
            rw [HE.out, if_neg hne]
          · have hne : (p + 1 = s.data.toList.length) := by simp at he; omega
            go_wp2
            go_ret2
            refine ⟨ret_name ?_, rfl⟩
            rw [HE.out, if_pos hne]
        · have hz : s[p].toNat ≠ 0 := by simpa using h0
          by_cases h6 : sizeB (s[p].toNat) = true
          · have h63 : s[p].toNat ≤ 63 := by simp [sizeB] at h6; omega
            have HE : Hid (At s.data.toList (p + (1 + s[p].toNat)) (n + 1)) := at_step hat hlt' hz h63
            go_wp2_with (go_at_call 70; refine (maySize_any _ _ (by omega) (by omega)).mono ?_; rintro e w' ⟨rfl, rfl⟩)
            go_round
            case rel => exact ⟨n + 1, p + (1 + s[p].toNat), by omega, by omega, by go_num, by go_num, HE⟩
            case measure => simp [intOf]; omega
          · have h63 : 63 < s[p].toNat := by simp [sizeB] at h6; omega
            have HE : Hid (nm s.data.toList = none) := HN.out.trans (at_great hat hlt' h63)
            go_wp2_with (go_at_call 70; refine (maySize_any _ _ (by omega) (by omega)).mono ?_; rintro e w' ⟨rfl, rfl⟩)
            rw [Exit.noGoto_ret]
            go_ret2
            exact ⟨ret_noName HE.out, rfl⟩
      · have HE : Hid (nm s.data.toList = none) := HN.out.trans (at_past hat (by omega))
        have hne : ((p : Int) != (s.size : Int) - 1) = true := by simp; omega
        go_wp2
        go_ret2
        exact ⟨ret_noName HE.out, rfl⟩
  · have HE : Hid (nm s.data.toList = none) := by unfold Hid nm; rw [if_pos (by omega)]
    go_enter Try.func68, Try.ntmps68
    go_wp2
    go_step3
    go_wp2
    try rw [Exit.noGoto_ret]
    go_ret2
    exact ⟨ret_noName HE.out, rfl⟩

theorem may_any (s : ByteArray) (w : World) (hs : s.size ≤ maxLen) :
    Calls Try.prog 64 #[.string s] w fun e w' => e = .returned (.bool (isName s.data.toList)) ∧ w' = w := by
  go_enter Try.func64, Try.ntmps64
  go_wp2_with (go_at_call 68; refine (measure_any _ _ hs).mono ?_; rintro e w' ⟨rfl, rfl⟩)
  go_ret
  exact ⟨rfl, rfl⟩

end Go.Proofs.Ytbffnicfibfceaa

/- Plain functions on bytes that tell which texts are a name's, with no word of the program. -/
namespace Go.Proofs.Ytbffnicfibfceaa.Pl

/-- All labels are read: the name, if it is not too long. -/
def fin (o : List UInt8) : Option (List UInt8) := if 255 < o.length + 1 then none else some (o ++ [0])

/-- A text is read within a label: o: the labels behind; lb: the label so far. -/
def pin : Nat → List UInt8 → List UInt8 → List UInt8 → Option (List UInt8)
  | 0, _, _, _ => none
  | _ + 1, _, _, [] => none
  | f + 1, o, lb, c :: r =>
    if c.toNat = 46 then (if sizeB lb.length then (if r.length = 0 then fin (o ++ UInt8.ofNat lb.length :: lb) else pin f (o ++ UInt8.ofNat lb.length :: lb) [] r) else none)
    else match rb (c :: r) with
      | none => none
      | some (b, k) => pin f o (lb ++ [b]) ((c :: r).drop k)

def pout (f : Nat) (o t : List UInt8) : Option (List UInt8) := if t.length = 0 then fin o else pin f o [] t

/-- The name whose text this is. -/
def prs (t : List UInt8) : Option (List UInt8) := if t = [46] then some [0] else if t.length = 0 ∨ 1020 < t.length then none else pin t.length [] [] t

def PIn (t o lb : List UInt8) (a : Nat) (R : Option (List UInt8)) : Prop := ∃ f, t.length - a ≤ f ∧ pin f o lb (t.drop a) = R
def POut (t o : List UInt8) (a : Nat) (R : Option (List UInt8)) : Prop := ∃ f, t.length - a ≤ f ∧ pout f o (t.drop a) = R

theorem rb_width {t : List UInt8} {b : UInt8} {k : Nat} (h : rb t = some (b, k)) : 1 ≤ k ∧ k ≤ t.length := by
  match t with
  | [] => simp [rb] at h
  | c :: r =>
    rw [rb] at h
    split at h
    · simp only [Option.some.injEq, Prod.mk.injEq] at h; simp; omega
    · split at h
      · simp at h
      · match r with
        | [] => simp [rbTail] at h
        | [_] => simp [rbTail] at h
        | [_, _] => simp [rbTail] at h
        | x :: y :: z :: r =>
          rw [rbTail] at h
          split at h
          · simp only [Option.some.injEq, Prod.mk.injEq] at h; simp; omega
          · simp at h

section
variable {t o lb : List UInt8} {a : Nat} {R : Option (List UInt8)}

theorem PIn.fuel (h : PIn t o lb a R) (ha : a < t.length) : ∃ f, t.length - (a + 1) ≤ f ∧ pin (f + 1) o lb (t[a] :: t.drop (a + 1)) = R := by
  obtain ⟨f, hf, h⟩ := h
  match f, hf with
  | 0, hf => omega
  | f + 1, hf => exact ⟨f, by omega, by rw [← drop_at t a ha]; exact h⟩

theorem in_dot (h : PIn t o lb a R) (ha : a < t.length) (hc : t[a].toNat = 46) (hs : sizeB lb.length = true) : POut t (o ++ UInt8.ofNat lb.length :: lb) (a + 1) R := by
  obtain ⟨f, hf, h⟩ := h.fuel ha
  rw [pin, if_pos hc, if_pos hs] at h
  exact ⟨f, hf, h⟩

theorem in_dot_no (h : PIn t o lb a R) (ha : a < t.length) (hc : t[a].toNat = 46) (hs : sizeB lb.length = false) : R = none := by
  obtain ⟨f, hf, h⟩ := h.fuel ha
  rw [pin, if_pos hc, if_neg (by simp [hs])] at h
  exact h.symm

theorem in_none (h : PIn t o lb a R) (ha : a < t.length) (hc : t[a].toNat ≠ 46) (hr : rb (t.drop a) = none) : R = none := by
  obtain ⟨f, hf, h⟩ := h.fuel ha
  rw [drop_at t a ha] at hr
  rw [pin, if_neg hc, hr] at h
  exact h.symm

theorem in_some (h : PIn t o lb a R) (ha : a < t.length) (hc : t[a].toNat ≠ 46) {b : UInt8} {k : Nat} (hr : rb (t.drop a) = some (b, k)) : PIn t o (lb ++ [b]) (a + k) R := by
  obtain ⟨f, hf, h⟩ := h.fuel ha
  have hk := rb_width hr
  have hr' := hr
  rw [drop_at t a ha] at hr'
  rw [pin, if_neg hc, hr'] at h
  refine ⟨f, by omega, ?_⟩
  rw [← List.drop_drop, drop_at t a ha]
  exact h

theorem in_end (h : PIn t o lb a R) (ha : t.length ≤ a) : R = none := by
  obtain ⟨f, hf, h⟩ := h
  rw [List.drop_of_length_le ha] at h
  match f with
  | 0 => exact h.symm
  | f + 1 => exact h.symm

theorem out_in (h : POut t o a R) (ha : a < t.length) : PIn t o [] a R := by
  obtain ⟨f, hf, h⟩ := h
  rw [pout, if_neg (by simp; omega)] at h
  exact ⟨f, hf, h⟩

theorem out_end (h : POut t o a R) (ha : t.length ≤ a) : R = fin o := by
  obtain ⟨f, hf, h⟩ := h
  rw [pout, if_pos (by simp; omega)] at h
  exact h.symm

theorem out_start (h0 : 0 < t.length) (h1 : t.length ≤ 1020) (h2 : t ≠ [46]) : POut t [] 0 (prs t) := by
  refine ⟨t.length, by omega, ?_⟩
  rw [prs, if_neg h2, if_neg (by omega), pout, List.drop_zero, if_neg (by omega)]
end

end Go.Proofs.Ytbffnicfibfceaa.Pl

/- Names and their texts go there and back: plain facts on bytes, with no word of the program. -/
namespace Go.Proofs.Ytbffnicfibfceaa.Pl

theorem esc_size (b : UInt8) : 1 ≤ (esc b).length ∧ (esc b).length ≤ 4 := by unfold esc; split <;> simp

theorem toNat_of {n : Nat} (h : n < 256) : (UInt8.ofNat n).toNat = n := by simp; omega

/-- What stands at a byte's text's head is no dot. -/
theorem esc_head (b : UInt8) : ∃ c r, esc b = c :: r ∧ c.toNat ≠ 46 := by
  unfold esc
  split
  · rename_i h
    refine ⟨b, [], rfl, ?_⟩
    simp [standsB] at h
    omega
  · exact ⟨92, _, rfl, by decide⟩

theorem rb_of_esc (b : UInt8) (X : List UInt8) : rb (esc b ++ X) = some (b, (esc b).length) := by
  have hb := b.toNat_lt
  cases h : standsB b.toNat with
  | true => simp only [esc, h, if_true]; exact rb_stands h
  | false =>
    have e : esc b = [92, UInt8.ofNat (48 + b.toNat / 100), UInt8.ofNat (48 + b.toNat / 10 % 10), UInt8.ofNat (48 + b.toNat % 10)] := by unfold esc; rw [if_neg (by simp [h])]
    rw [e]
    have ex := toNat_of (n := 48 + b.toNat / 100) (by omega)
    have ey := toNat_of (n := 48 + b.toNat / 10 % 10) (by omega)
    have ez := toNat_of (n := 48 + b.toNat % 10) (by omega)
    have hv : val3 (UInt8.ofNat (48 + b.toNat / 100)) (UInt8.ofNat (48 + b.toNat / 10 % 10)) (UInt8.ofNat (48 + b.toNat % 10)) = b.toNat := by
      unfold val3; rw [ex, ey, ez]; omega
    show rb (92 :: _ :: _ :: _ :: X) = _
    rw [rb_tells (by decide) (by decide), if_pos, hv]
    · simp
    · unfold tells dig
      rw [hv, ex, ey, ez, h]
      simp
      omega

theorem esc_of_rb {t : List UInt8} {b : UInt8} {k : Nat} (h : rb t = some (b, k)) : t = esc b ++ t.drop k := by
  match t with
  | [] => simp [rb] at h
  | c :: r =>
    cases hs : standsB c.toNat with
    | true =>
      rw [rb_stands hs] at h
      simp only [Option.some.injEq, Prod.mk.injEq] at h
      obtain ⟨rfl, rfl⟩ := h
      unfold esc
      rw [if_pos hs]; rfl
    | false =>
      by_cases h92 : c.toNat = 92
      · match r with
        | [] => rw [rb_short hs (by simp)] at h; simp at h
        | [_] => rw [rb_short hs (by simp)] at h; simp at h
        | [_, _] => rw [rb_short hs (by simp)] at h; simp at h
        | x :: y :: z :: r =>
          rw [rb_tells hs h92] at h
          split at h
          · rename_i ht
            simp only [Option.some.injEq, Prod.mk.injEq] at h
            obtain ⟨rfl, rfl⟩ := h
            simp only [tells, dig, Bool.and_eq_true, decide_eq_true_eq, Bool.not_eq_true'] at ht
            obtain ⟨⟨⟨⟨hx, hy⟩, hz⟩, hv⟩, hst⟩ := ht
            have ev := toNat_of (n := val3 x y z) (by omega)
            unfold esc
            rw [ev, if_neg (by simp [hst])]
            have e0 : c = 92 := UInt8.toNat_inj.1 (by simpa using h92)
            have e1 : UInt8.ofNat (48 + val3 x y z / 100) = x := UInt8.toNat_inj.1 (by rw [toNat_of (by omega)]; unfold val3; omega)
            have e2 : UInt8.ofNat (48 + val3 x y z / 10 % 10) = y := UInt8.toNat_inj.1 (by rw [toNat_of (by omega)]; unfold val3; omega)
            have e3 : UInt8.ofNat (48 + val3 x y z % 10) = z := UInt8.toNat_inj.1 (by rw [toNat_of (by omega)]; unfold val3; omega)
            rw [e0, e1, e2, e3]; rfl
          · simp at h
      · rw [rb_other hs h92] at h; simp at h

theorem pin_cons (f : Nat) (o lb r : List UInt8) (c : UInt8) : pin (f + 1) o lb (c :: r) =
    if c.toNat = 46 then (if sizeB lb.length then pout f (o ++ UInt8.ofNat lb.length :: lb) r else none)
    else match rb (c :: r) with
      | none => none
      | some (b, k) => pin f o (lb ++ [b]) ((c :: r).drop k) := rfl

theorem pin_label (lab : List UInt8) : ∀ (f : Nat) (o lb T : List UInt8), lab.length + 1 + T.length ≤ f →
    ∃ f', T.length ≤ f' ∧ pin f o lb (lab.flatMap esc ++ 46 :: T) = if sizeB (lb ++ lab).length then pout f' (o ++ UInt8.ofNat (lb ++ lab).length :: (lb ++ lab)) T else none := by
  induction lab with
  | nil =>
    intro f o lb T hf
    obtain ⟨f, rfl⟩ : ∃ g, f = g + 1 := ⟨f - 1, by omega⟩
    · refine ⟨f, by simp at hf; omega, ?_⟩
      show pin (f + 1) o lb (46 :: T) = _
      rw [pin_cons, if_pos (by decide), List.append_nil]
  | cons b lab ih =>
    intro f o lb T hf
    obtain ⟨f, rfl⟩ : ∃ g, f = g + 1 := ⟨f - 1, by omega⟩
    · obtain ⟨f', h1, h2⟩ := ih f o (lb ++ [b]) T (by simp at hf; omega)
      refine ⟨f', h1, ?_⟩
      obtain ⟨c, r, he, hc⟩ := esc_head b
      have hr := rb_of_esc b (lab.flatMap esc ++ 46 :: T)
      have e : (b :: lab).flatMap esc ++ 46 :: T = c :: (r ++ (lab.flatMap esc ++ 46 :: T)) := by
        rw [List.flatMap_cons, he]; simp
      have e2 : esc b ++ (lab.flatMap esc ++ 46 :: T) = c :: (r ++ (lab.flatMap esc ++ 46 :: T)) := by rw [he]; rfl
      rw [e2] at hr
      rw [e, pin_cons, if_neg hc, hr]
      show pin f o (lb ++ [b]) ((c :: (r ++ (lab.flatMap esc ++ 46 :: T))).drop (esc b).length) = _
      rw [← e2, List.drop_left, h2, List.append_assoc]
      rfl

theorem nmS_label {c : UInt8} {r : List UInt8} (h : (nmS 0 (c :: r)).isSome = true) (h0 : c.toNat ≠ 0) :
    c.toNat ≤ 63 ∧ c.toNat < r.length ∧ (nmS 0 (r.drop c.toNat)).isSome = true := by
  rw [nmS, if_neg h0] at h
  split at h
  · simp at h
  · have h2 : (nmS c.toNat r).isSome = true := by simpa using h
    exact ⟨by omega, nmS_cut h2, by rw [← nmS_drop]; exact h2⟩

theorem txS_cons {c : UInt8} {r : List UInt8} (h0 : c.toNat ≠ 0) (hl : c.toNat ≤ r.length) : txS 0 (c :: r) = (r.take c.toNat).flatMap esc ++ 46 :: txS 0 (r.drop c.toNat) := by
  rw [txS, if_neg h0]
  obtain ⟨k, hk⟩ : ∃ k, c.toNat = k + 1 := ⟨c.toNat - 1, by omega⟩
  rw [hk]
  exact txS_label k r (by omega)

theorem flat_long (lab : List UInt8) : lab.length ≤ (lab.flatMap esc).length := by
  induction lab with
  | nil => simp
  | cons b lab ih => have := esc_size b; rw [List.flatMap_cons, List.length_append, List.length_cons]; omega

/-- A name's text is read as the name. -/
theorem pout_text : ∀ (n : Nat) (l : List UInt8), l.length ≤ n → (nmS 0 l).isSome = true → ∀ (f : Nat) (o : List UInt8), o.length + l.length ≤ 255 → (txS 0 l).length ≤ f → pout f o (txS 0 l) = some (o ++ l) := by
  intro n
  induction n with
  | zero =>
    intro l hl h
    have : l = [] := List.eq_nil_of_length_eq_zero (by omega)
    subst this
    simp [nmS] at h
  | succ n ih =>
    intro l hl h f o ho hf
    match l with
    | [] => simp [nmS] at h
    | c :: r =>
      by_cases h0 : c.toNat = 0
      · rw [nmS, if_pos h0] at h
        have hr : r = [] := by
          by_cases e : r.length = 0
          · exact List.eq_nil_of_length_eq_zero e
          · simp [e] at h
        subst hr
        have ec : c = 0 := UInt8.toNat_inj.1 (by simpa using h0)
        subst ec
        simp at ho
        show fin o = _
        rw [fin, if_neg (by omega)]
      · obtain ⟨h63, hlt, hn⟩ := nmS_label h h0
        rw [txS_cons h0 (by omega)] at hf ⊢
        have hlen : (r.take c.toNat).length = c.toNat := by simp; omega
        have hfl := flat_long (r.take c.toNat)
        simp only [List.length_append, List.length_cons] at hf
        rw [pout, if_neg (by simp)]
        obtain ⟨f', h1, h2⟩ := pin_label (r.take c.toNat) f o [] (txS 0 (r.drop c.toNat)) (by omega)
        rw [h2]
        simp only [List.nil_append]
        rw [hlen, if_pos (by simp [sizeB]; omega)]
        have ec : UInt8.ofNat c.toNat = c := by simp
        rw [ec]
        have hl' : (r.drop c.toNat).length ≤ n := by simp at hl ⊢; omega
        rw [ih _ hl' hn f' _ (by simp at ho ⊢; omega) h1]
        simp

theorem txS_short : ∀ (l : List UInt8) (k : Nat), (txS k l).length ≤ 4 * l.length + (if k = 0 then 0 else 1) := by
  intro l
  induction l with
  | nil => intro k; simp [txS]
  | cons b r ih =>
    intro k
    have he := esc_size b
    match k with
    | 0 =>
      rw [txS]
      split
      · simp
      · have := ih b.toNat
        split at this <;> simp <;> omega
    | 1 => have := ih 0; simp [txS] at this ⊢; omega
    | k + 2 => have := ih (k + 1); simp [txS] at this ⊢; omega

theorem name_some {l : List UInt8} (h : isName l = true) : l.length ≤ 255 ∧ (nmS 0 l).isSome = true := by
  unfold isName nm at h
  split at h
  · simp at h
  · exact ⟨by omega, h⟩

theorem name_root {l : List UInt8} (h : isName l = true) (h1 : l.length = 1) : l = [0] := by
  match l, h1 with
  | [c], _ =>
    simp only [isName, nm, nmS] at h
    by_cases hc : c.toNat = 0
    · rw [show c = 0 from UInt8.toNat_inj.1 (by simpa using hc)]
    · simp [hc] at h

theorem name_long {l : List UInt8} (h : isName l = true) (h1 : l.length ≠ 1) : ∃ c r, l = c :: r ∧ c.toNat ≠ 0 := by
  obtain ⟨_, hs⟩ := name_some h
  match l with
  | [] => simp [nmS] at hs
  | c :: r =>
    refine ⟨c, r, rfl, fun h0 => h1 ?_⟩
    rw [nmS, if_pos h0] at hs
    by_cases e : r.length = 0
    · simp [e]
    · simp [e] at hs

/-- There and back: a name. -/
theorem prs_tx {l : List UInt8} (h : isName l = true) : prs (tx l) = some l := by
  obtain ⟨h255, hs⟩ := name_some h
  by_cases h1 : l.length = 1
  · rw [name_root h h1]; decide
  · obtain ⟨c, r, rfl, h0⟩ := name_long h h1
    have ht : tx (c :: r) = txS 0 (c :: r) := by unfold tx; rw [if_neg h1]
    obtain ⟨h63, hlt, hn⟩ := nmS_label hs h0
    have hc := txS_cons h0 (Nat.le_of_lt hlt)
    have hshort := txS_short (c :: r) 0
    have hp := pout_text _ (c :: r) (Nat.le_refl _) hs (txS 0 (c :: r)).length [] (by simpa using h255) (Nat.le_refl _)
    rw [ht, prs]
    have hne : txS 0 (c :: r) ≠ [46] := by
      rw [hc]
      intro e
      have := congrArg List.length e
      have hfl := flat_long (r.take c.toNat)
      simp at this hfl
      omega
    have h0l : (txS 0 (c :: r)).length ≠ 0 := by rw [hc]; simp
    rw [if_neg hne, if_neg (by simp only [if_true] at hshort; omega)]
    rw [pout, if_neg h0l] at hp
    exact hp

/-- What is read within a label is a label's rest, a dot, and a name's text. -/
theorem pin_gives : ∀ (f : Nat) (o lb t l : List UInt8), pin f o lb t = some l →
    ∃ lab T N : List UInt8, t = lab.flatMap esc ++ 46 :: T ∧ sizeB (lb ++ lab).length = true ∧ l = o ++ UInt8.ofNat (lb ++ lab).length :: (lb ++ lab ++ N) ∧ (nmS 0 N).isSome = true ∧ txS 0 N = T ∧ l.length ≤ 255 := by
  intro f
  induction f with
  | zero => intro o lb t l h; simp [pin] at h
  | succ f ih =>
    intro o lb t l h
    match t with
    | [] => simp [pin] at h
    | c :: r =>
      rw [pin_cons] at h
      by_cases hc : c.toNat = 46
      · rw [if_pos hc] at h
        have ec : c = 46 := UInt8.toNat_inj.1 (by simpa using hc)
        subst ec
        cases hs : sizeB lb.length with
        | false => simp [hs] at h
        | true =>
          rw [hs, if_pos rfl, pout] at h
          by_cases hr : r.length = 0
          · rw [if_pos hr, fin] at h
            split at h
            · simp at h
            · rename_i hsz
              have er : r = [] := List.eq_nil_of_length_eq_zero hr
              subst er
              simp only [Option.some.injEq] at h
              subst h
              refine ⟨[], [], [0], rfl, by simpa using hs, by simp, by decide, by decide, ?_⟩
              simp at hsz ⊢
              omega
          · rw [if_neg hr] at h
            obtain ⟨lab, T, N, h1, h2, h3, h4, h5, h6⟩ := ih _ _ _ _ h
            simp only [List.nil_append] at h2 h3
            have hl : 1 ≤ lab.length ∧ lab.length ≤ 63 := by simp [sizeB] at h2; omega
            have en := toNat_of (n := lab.length) (by omega)
            refine ⟨[], r, UInt8.ofNat lab.length :: (lab ++ N), rfl, by simpa using hs, by rw [h3]; simp, ?_, ?_, h6⟩
            · rw [nmS, en, if_neg (by omega), if_neg (by omega), nmS_drop, List.drop_left]
              simpa using h4
            · rw [txS_cons (by rw [en]; omega) (by rw [en]; simp), en, List.drop_left, List.take_left, h5, ← h1]
      · rw [if_neg hc] at h
        cases hr : rb (c :: r) with
        | none => rw [hr] at h; simp at h
        | some bk =>
          obtain ⟨b, k⟩ := bk
          rw [hr] at h
          obtain ⟨lab, T, N, h1, h2, h3, h4, h5, h6⟩ := ih _ _ _ _ h
          refine ⟨b :: lab, T, N, ?_, by simpa using h2, by rw [h3]; simp, h4, h5, h6⟩
          have := esc_of_rb hr
          rw [this, h1]
          simp

/-- There and back: a text. -/
theorem tx_prs {t l : List UInt8} (h : prs t = some l) : isName l = true ∧ tx l = t := by
  rw [prs] at h
  split at h
  · rename_i e
    simp only [Option.some.injEq] at h
    subst h
    subst e
    exact ⟨by decide, by decide⟩
  · split at h
    · simp at h
    · obtain ⟨lab, T, N, h1, h2, h3, h4, h5, h6⟩ := pin_gives _ _ _ _ _ h
      simp only [List.nil_append] at h2 h3
      have hl : 1 ≤ lab.length ∧ lab.length ≤ 63 := by simp [sizeB] at h2; omega
      have en := toNat_of (n := lab.length) (by omega)
      have hN : 0 < N.length := nmS_cut h4
      subst h3
      have hs : (nmS 0 (UInt8.ofNat lab.length :: (lab ++ N))).isSome = true := by
        rw [nmS, en, if_neg (by omega), if_neg (by omega), nmS_drop, List.drop_left]
        simpa using h4
      refine ⟨by unfold isName nm; rw [if_neg (by omega)]; exact hs, ?_⟩
      unfold tx
      rw [if_neg (by simp only [List.length_cons, List.length_append]; omega), txS_cons (by rw [en]; omega) (by rw [en]; simp), en, List.drop_left, List.take_left, h5, ← h1]

end Go.Proofs.Ytbffnicfibfceaa.Pl

/- Laws for rows of bytes that a call owns; small words on strings and worlds. -/
namespace Go.Proofs.Ytbffnicfibfceaa
open Go.RowKit
open Pl

/-- A byte as a cell. -/
def bv (b : UInt8) : Value := .int .u8 (b.toNat : Int)

theorem info5 : (Try.prog.info? 5).map (fun i => (i.zero, i.size, i.bytes)) = some (some (.int .u8 0), 1, 1) := by kernel_rfl

/-- Bytes that have just been laid in a block of their own are appended to a row of bytes that the call owns. -/
theorem wpList_app {w0 : World} {ops : Array Oper} {rest : List Oper} {o : Oper} {a : Act} {Q : Exit → Act → World → Prop} (hgd : o.guard = none) (s x : Operand)
    (ho : o.op = .call { callee := .builtin .append, args := #[s, x], argTypes := #[81, 81] }) (w : World) (L : List Value) (hw : w0 = w.alloc (.cells L.toArray 5)) (base : Nat) (v : Value) (n : Nat) (xs : List Value) (hs : a.eval s = v) (hown : w.ownsRow base 5 1 v n xs)
    (hx : a.eval x = .slice (some ⟨w.heap.size, 0, none⟩) L.length L.length) (hL : ∀ u ∈ L, ∃ z, u = .int .u8 z) (hm : 0 < L.length) (hn : n + L.length ≤ 140737488355328) (hbase : base ≤ w.heap.size)
    (h : ∀ g cap w', w'.ownsRow base 5 1 (.slice (some ⟨g, 0, none⟩) (n + L.length) cap) (n + L.length) (xs ++ L) → w.grownBy w' v.ownBlock → (v.ownBlock = some g ∨ w.heap.size ≤ g) → g < w'.heap.size →
      wpList Try.prog ops Q rest (a.put o.dst (.slice (some ⟨g, 0, none⟩) (n + L.length) cap)) w') : wpList Try.prog ops Q (o :: rest) a w0 := by
  subst hw
  obtain ⟨i0, hi, hz0, hz1, hz2⟩ := info_parts info5
  refine wpList_append_lies _ hgd s x 81 ho base 5 i0 (.int .u8 0) 1 1 Try.underlying81 hi hz0 hz1 hz2 rfl (by decide) v n xs hs (hown.alloc _) ⟨w.heap.size, 0, none⟩ L.length L.length L hx (by omega)
    (by simpa using World.news_of_block (heap_alloc_new w (.cells L.toArray 5))) (fun u hu => by obtain ⟨z, rfl⟩ := hL u hu; rfl) hm (by unfold maxLen; omega) (by omega) (by simp; omega) (w.heap.size + 1) (by simp) ?_
  intro g cap w' h1 h2 h3 h4
  refine h g cap w' h1 ?_ (h3.imp id (fun e => by omega)) h4
  refine ⟨h2.os, h2.tape, h2.output, ?_, fun k hk hne => ?_⟩
  · have := h2.size; simp at this; omega
  · exact (h2.block k (by simp; omega) hne).trans (Below.heap_alloc w _ k hk)

/-- A string's bytes are laid in a block of their own. -/
theorem wpList_bytes (w : World) {ops : Array Oper} {rest : List Oper} {o : Oper} {a : Act} {Q : Exit → Act → World → Prop} (hgd : o.guard = none) (x : Operand)
    (ho : o.op = .convert 9 81 x) (s : ByteArray) (hx : a.eval x = .string s) (l : List UInt8) (hl : s.data.toList = l) (n : Nat) (hn : l.length = n)
    (h : ∀ cap w', (∀ j (hj : j < l.length), w'.cell? ⟨w.heap.size, j, none⟩ = some (.int .u8 (l[j].toNat : Int))) → w.grownBy w' none → w'.heap.size = w.heap.size + 1 →
      wpList Try.prog ops Q rest (a.put o.dst (.slice (some ⟨w.heap.size, 0, none⟩) n cap)) w') : wpList Try.prog ops Q (o :: rest) a w := by
  refine wpList_plain hgd fun K hK => ?_
  have hr := run_bytes_of_string (P := Try.prog) w 9 81 5 s Try.underlying9 Try.underlying81 Try.underlying5
  have hsz : s.size = n := by rw [← hn, ← hl, Array.length_toList]; rfl
  unfold Oper.wp execOp
  simp only [ho, hx, Sem.run_bind, hr, Result.andThen_ok, Sem.run_pure]
  rw [hsz]
  refine hK _ _ (h _ _ (fun j hj => ?_) ⟨rfl, rfl, rfl, by simp, fun k hk _ => Below.heap_alloc w.drew _ k hk⟩ (by simp))
  subst hl
  have hj' : j < s.size := by omega
  rw [show w.heap.size = w.drew.heap.size from rfl, World.cell?_alloc_mark]
  unfold bytesRow
  rw [Array.getElem?_append_left (by simpa using hj)]
  have hd : j < s.data.size := hj'
  rw [Array.getElem?_map, Array.getElem?_eq_getElem hd]
  rfl

/-- A row of bytes that the call owns becomes a string. -/
theorem wpList_string (w : World) {ops : Array Oper} {rest : List Oper} {o : Oper} {a : Act} {Q : Exit → Act → World → Prop} (hgd : o.guard = none) (x : Operand)
    (ho : o.op = .convert 81 9 x) (base n : Nat) (v : Value) (l : List UInt8) (hx : a.eval x = v) (hown : w.ownsRow base 5 1 v n (l.map bv))
    (h : wpList Try.prog ops Q rest (a.put o.dst (.string ⟨l.toArray⟩)) w) : wpList Try.prog ops Q (o :: rest) a w := by
  refine wpList_plain hgd fun K hK => ?_
  have hln : l.length = n := by simpa using hown.1
  have hr : (convert 81 9 v).run Try.prog w = .ok (.string ⟨l.toArray⟩) w := by
    rcases hown.2 with ⟨rfl, rfl⟩ | ⟨g, cap, cur, rfl, hb, hg, hnc, hm, hcs, htake⟩
    · have hl : l = [] := List.eq_nil_of_length_eq_zero hln
      subst hl
      exact run_convert_bytes_nil w 81 5 Try.underlying81 Try.underlying5 0 0 9 Try.underlying9
    · subst hln
      refine run_convert_bytes_back w 81 9 5 ⟨g, 0, none⟩ cap l Try.underlying81 Try.underlying5 Try.underlying9 fun j hj => ?_
      refine World.news_of_block hg j _ ?_
      have : (cur.toList.take (l.length * 1))[j]? = (l.map bv)[j]? := by rw [htake]
      rw [List.getElem?_take_of_lt (by omega)] at this
      rw [this]
      simp [hj, bv]
  unfold Oper.wp execOp
  simp only [ho, hx, Sem.run_bind, hr, Result.andThen_ok, Sem.run_pure]
  exact hK _ _ h


theorem list_at (s : ByteArray) (k : Nat) (h : k < s.size) : s.data.toList.drop k = s[k] :: s.data.toList.drop (k + 1) :=
  List.drop_eq_getElem_cons (by rw [Array.length_toList]; exact h)
theorem below_of {w w' : World} (h : w.grownBy w' none) : Below w.heap.size w w' := ⟨h.os, h.tape, h.output, h.size, fun k hk => h.block k hk (by simp)⟩

theorem next {w b c : World} (h : Below w.heap.size w b) (k : Below b.heap.size b c) : Below w.heap.size w c := h.trans (k.mono h.size)
theorem lay {w b : World} (h : Below w.heap.size w b) (o : Obj) : Below w.heap.size w (b.alloc o) := h.alloc h.size o
theorem mk_data (s : ByteArray) : (⟨s.data.toList.toArray⟩ : ByteArray) = s := rfl
theorem mk_of {s : ByteArray} {l : List UInt8} (h : s.data.toList = l) : (⟨l.toArray⟩ : ByteArray) = s := by rw [← h]
theorem data_len (s : ByteArray) : s.data.toList.length = s.size := by rw [Array.length_toList]; rfl
theorem name_size {s : ByteArray} (h : isName s.data.toList = true) : s.size ≤ 255 := by rw [← data_len]; exact (name_some h).1
theorem may_as (s : ByteArray) (b : Bool) (w : World) (hs : s.size ≤ maxLen) (h : isName s.data.toList = b) :
    Calls Try.prog 64 #[.string s] w fun e w' => e = .returned (.bool b) ∧ w' = w := by rw [← h]; exact may_any s w hs
theorem conv_lit (l : List UInt8) (u : World) : (convert 81 9 (.slice (some ⟨u.heap.size, 0, none⟩) l.length l.length)).run Try.prog (u.alloc (.cells (l.map bv).toArray 5)) = .ok (.string ⟨l.toArray⟩) (u.alloc (.cells (l.map bv).toArray 5)) := by
  refine run_convert_bytes_back _ 81 9 5 ⟨u.heap.size, 0, none⟩ l.length l Try.underlying81 Try.underlying5 Try.underlying9 fun j hj => ?_
  refine World.news_of_block (heap_alloc_new u (.cells (l.map bv).toArray 5)) j _ ?_
  simp [hj, bv]

/-- The bytes of one row that the call owns are appended to another one, which is not empty. -/
theorem wpList_appv (w : World) {ops : Array Oper} {rest : List Oper} {o : Oper} {a : Act} {Q : Exit → Act → World → Prop} (hgd : o.guard = none) (s x : Operand)
    (ho : o.op = .call { callee := .builtin .append, args := #[s, x], argTypes := #[81, 81] }) (base : Nat) (g n cap : Nat) (xs : List Value) (hs : a.eval s = .slice (some ⟨g, 0, none⟩) n cap) (hown : w.ownsRow base 5 1 (.slice (some ⟨g, 0, none⟩) n cap) n xs)
    (a2 : Option Addr) (m c2 : Nat) (lb : List UInt8) (hx : a.eval x = .slice a2 m c2) (hlab : w.ownsRow base 5 1 (.slice a2 m c2) m (lb.map bv)) (hnil : m = 0 → a2 = none) (hn : n + m ≤ 140737488355328) (hbase : base ≤ w.heap.size)
    (h : ∀ g' cap' w', w'.ownsRow base 5 1 (.slice (some ⟨g', 0, none⟩) (n + m) cap') (n + m) (xs ++ lb.map bv) → w.grownBy w' (some g) →
      wpList Try.prog ops Q rest (a.put o.dst (.slice (some ⟨g', 0, none⟩) (n + m) cap')) w') : wpList Try.prog ops Q (o :: rest) a w := by
  obtain ⟨i0, hi, hz0, hz1, hz2⟩ := info_parts info5
  have hml : lb.length = m := by simpa using hlab.1
  by_cases hm : m = 0
  · have ha := hnil hm
    subst hm
    subst ha
    have hl : lb = [] := List.eq_nil_of_length_eq_zero hml
    subst hl
    have hc : c2 = 0 := by
      rcases hlab.2 with ⟨e, _⟩ | ⟨g', cap', cur, e, _⟩
      · simp at e; exact e
      · simp at e
    subst hc
    refine wpList_append_own_none hgd s x 81 ho base 5 i0 1 Try.underlying81 hi _ n xs hs hown hx ?_
    exact h g cap w (by simpa using hown) (World.grownBy.refl w _)
  · obtain ⟨g2, cap2, e, _, _⟩ := hlab.form (by omega)
    simp only [Value.slice.injEq, true_and] at e
    obtain ⟨rfl, rfl⟩ := e
    refine wpList_append_lies w hgd s x 81 ho base 5 i0 (.int .u8 0) 1 1 Try.underlying81 hi hz0 hz1 hz2 rfl (by decide) _ n xs hs hown ⟨g2, 0, none⟩ m c2 (lb.map bv) hx (by simpa using hml)
      (fun j u hu => ?_) (fun u hu => ?_) (by omega) (by unfold maxLen; omega) (by omega) hbase _ rfl ?_
    · have hj : j < m := by rw [← hml]; have := (List.getElem?_eq_some_iff.1 hu).1; simpa using this
      have hadd : (⟨g2, 0, none⟩ : Addr).add j = ⟨g2, j, none⟩ := by unfold Addr.add; split <;> simp_all
      rw [hadd, hlab.cellAt j (by omega), hu]
    · simp only [List.mem_map] at hu
      obtain ⟨b, _, rfl⟩ := hu
      rfl
    · intro g' cap' w' h1 h2 _ _
      exact h g' cap' w' h1 h2

/-- Two rows lie apart. -/
def Sep (v u : Value) : Prop := ∀ k, v.ownBlock = some k → u.ownBlock ≠ some k

theorem Sep.left {v u : Value} (h : Sep v u) : v.ownBlock = none ∨ v.ownBlock ≠ u.ownBlock := by
  cases hv : v.ownBlock with
  | none => exact .inl rfl
  | some k => exact .inr (fun e => h k hv e.symm)
theorem Sep.symm {v u : Value} (h : Sep v u) : Sep u v := fun k hk e => h k e hk
theorem sep_nil (v : Value) : Sep v (.slice none 0 0) := fun _ _ e => by simp [Value.ownBlock] at e

/-- A row that was appended to lies apart from one that lay apart from it. -/
theorem sep_grown {w : World} {base n g m cap : Nat} {v u : Value} {xs : List Value} (hs : Sep v u) (h3 : v.ownBlock = some g ∨ w.heap.size ≤ g) (hu : w.ownsRow base 5 1 u n xs) : Sep (.slice (some ⟨g, 0, none⟩) m cap) u := by
  intro k hk
  have e : g = k := by simpa [Value.ownBlock] using hk
  subst e
  rcases h3 with h3 | h3
  · exact hs g h3
  · intro he; have := (hu.lt g he).2; omega


theorem idx (s : ByteArray) (i : Nat) (c : Int) (hc : c = (i : Int)) (h : i < s.size) (u : World) : (Instr.index 9 (.string s) (.int .i64 c)).run Try.prog u = .ok (.int .u8 (s[i].toNat : Int)) u := by
  subst hc
  rw [run_index_string u 9 s .i64 (i : Int) Try.underlying9, dif_pos ⟨by omega, by omega⟩]
  rfl


/-- A row of bytes that the call owns becomes a string that has a name. -/
theorem wpList_stringB (w : World) {ops : Array Oper} {rest : List Oper} {o : Oper} {a : Act} {Q : Exit → Act → World → Prop} (hgd : o.guard = none) (x : Operand)
    (ho : o.op = .convert 81 9 x) (base n : Nat) (v : Value) (sb : ByteArray) (hx : a.eval x = v) (hown : w.ownsRow base 5 1 v n (sb.data.toList.map bv))
    (h : wpList Try.prog ops Q rest (a.put o.dst (.string sb)) w) : wpList Try.prog ops Q (o :: rest) a w :=
  wpList_string w hgd x ho base n v sb.data.toList hx hown h

end Go.Proofs.Ytbffnicfibfceaa

/- The places of a name's labels, and a text read loosely: plain facts on bytes, with no word of the program. -/
namespace Go.Proofs.Ytbffnicfibfceaa.Pl

/-- The places of labels, each behind the other; the last one is where the walk stands. -/
def LbSteps (l : List UInt8) (qs : List Nat) : Prop :=
  qs.getD 0 1 = 0 ∧ ∀ i, i + 1 < qs.length → qs.getD i 0 < l.length ∧ (l.getD (qs.getD i 0) 0).toNat ≠ 0 ∧ qs.getD (i + 1) 0 = qs.getD i 0 + 1 + (l.getD (qs.getD i 0) 0).toNat

/-- The places of a name's labels and of its last byte. -/
def Places (l : List UInt8) (qs : List Nat) : Prop :=
  LbSteps l qs ∧ qs.length = cnt l + 1 ∧ qs.getD (cnt l) 0 < l.length ∧ (l.getD (qs.getD (cnt l) 0) 0).toNat = 0

theorem getD_left {α : Type} (a b : List α) (i : Nat) (d : α) (h : i < a.length) : (a ++ b).getD i d = a.getD i d := by
  rw [List.getD_eq_getElem?_getD, List.getD_eq_getElem?_getD, List.getElem?_append_left h]

theorem steps_start (l : List UInt8) : LbSteps l [0] := ⟨rfl, fun i h => by simp at h⟩

theorem steps_next {l : List UInt8} {qs : List Nat} {p : Nat} (h : LbSteps l (qs ++ [p])) (hp : p < l.length) (h0 : l[p].toNat ≠ 0) : LbSteps l (qs ++ [p] ++ [p + 1 + l[p].toNat]) := by
  have hg : l.getD p 0 = l[p] := by simp [hp]
  refine ⟨?_, fun i hi => ?_⟩
  · have := h.1
    rw [getD_left _ _ _ _ (by simp)]
    exact this
  · simp at hi
    by_cases e : i = qs.length
    · subst e
      have e1 : (qs ++ [p] ++ [p + 1 + l[p].toNat]).getD qs.length 0 = p := by simp
      have e2 : (qs ++ [p] ++ [p + 1 + l[p].toNat]).getD (qs.length + 1) 0 = p + 1 + l[p].toNat := by simp
      rw [e1, e2, hg]
      exact ⟨hp, h0, rfl⟩
    · have := h.2 i (by simp; omega)
      rw [getD_left _ _ i _ (by simp; omega), getD_left _ _ (i + 1) _ (by simp; omega)]
      exact this

/-- At a name's last byte. -/
theorem places_end {l : List UInt8} {qs : List Nat} {p : Nat} (h : LbSteps l (qs ++ [p])) (ha : At l p qs.length) (hs : l.length ≤ 255) (hp : p < l.length) (h0 : l[p].toNat = 0) (he : p + 1 = l.length) :
    isName l = true ∧ Places l (qs ++ [p]) := by
  have hn : nm l = some qs.length := by rw [nm_short hs, at_end ha hp h0, if_pos he]
  have hc : cnt l = qs.length := by unfold cnt; rw [hn]; rfl
  refine ⟨by unfold isName; rw [hn]; rfl, h, by simp [hc], ?_, ?_⟩
  · rw [hc]; simpa using hp
  · rw [hc]; simp [hp, h0]

/-- Between two places lies a label. -/
theorem txAt_place {l : List UInt8} {qs : List Nat} {i : Nat} {done : List UInt8} (h : LbSteps l qs) (hi : i + 1 < qs.length) (ht : TxAt l (qs.getD i 0) done) :
    TxAt l (qs.getD (i + 1) 0) (done ++ ((l.drop (qs.getD i 0 + 1)).take (qs.getD (i + 1) 0 - (qs.getD i 0 + 1))).flatMap esc ++ [46]) := by
  obtain ⟨h1, h2, h3⟩ := h.2 i hi
  have hg : l.getD (qs.getD i 0) 0 = l[qs.getD i 0] := by rw [List.getD_eq_getElem?_getD, List.getElem?_eq_getElem h1]; rfl
  rw [hg] at h2 h3
  rw [h3]
  have e : qs.getD i 0 + 1 + l[qs.getD i 0].toNat - (qs.getD i 0 + 1) = l[qs.getD i 0].toNat := by omega
  rw [e]
  exact txAt_step ht h1 h2

theorem txAt_first {l : List UInt8} {qs : List Nat} (h : LbSteps l qs) (hn : isName l = true) (hq : 0 < qs.length) : TxAt l (qs.getD 0 0) [] := by
  have h0 : qs.getD 0 0 = 0 := by
    have := h.1
    match qs, hq with
    | q :: r, _ => simpa using this
  rw [h0]
  exact txAt_start (name_some hn).2

theorem txAt_last {l : List UInt8} {qs : List Nat} {done : List UInt8} (h : Places l qs) (ht : TxAt l (qs.getD (cnt l) 0) done) : txS 0 l = done := by
  obtain ⟨_, _, h3, h4⟩ := h
  have hg : l.getD (qs.getD (cnt l) 0) 0 = l[qs.getD (cnt l) 0] := by rw [List.getD_eq_getElem?_getD, List.getElem?_eq_getElem h3]; rfl
  rw [hg] at h4
  exact txAt_end ht h3 h4

theorem place_lt {l : List UInt8} {qs : List Nat} (h : Places l qs) {i : Nat} (hi : i < qs.length) : qs.getD i 0 < l.length := by
  obtain ⟨h1, h2, h3, _⟩ := h
  by_cases e : i + 1 < qs.length
  · exact (h1.2 i e).1
  · have : i = cnt l := by omega
    rw [this]; exact h3

theorem nmS_le : ∀ (l : List UInt8) (s k : Nat), nmS s l = some k → k ≤ l.length := by
  intro l
  induction l with
  | nil => intro s k h; simp [nmS] at h
  | cons c r ih =>
    intro s k h
    match s with
    | 0 =>
      rw [nmS] at h
      split at h
      · split at h
        · simp only [Option.some.injEq] at h; omega
        · simp at h
      · split at h
        · simp at h
        · obtain ⟨j, hj, hk⟩ := Option.map_eq_some_iff.1 h
          have := ih _ _ hj
          simp; omega
    | s + 1 =>
      rw [nmS] at h
      have := ih _ _ h
      simp; omega

theorem cnt_le (l : List UInt8) : cnt l ≤ 255 := by
  unfold cnt
  cases h : nm l with
  | none => simp
  | some k =>
    unfold nm at h
    split at h
    · simp at h
    · have := nmS_le _ _ _ h
      simp; omega

/- A text read loosely. -/

/-- If the text is a name's, the loose reading stands where the strict one does. -/
def J (t o lb : List UInt8) (a : Nat) (R : Option (List UInt8)) : Prop := R = none ∨ (lb = [] ∧ POut t o a R) ∨ (lb ≠ [] ∧ PIn t o lb a R)

theorem J.inn {t o lb : List UInt8} {a : Nat} {R : Option (List UInt8)} (h : J t o lb a R) (ha : a < t.length) : R = none ∨ PIn t o lb a R := by
  rcases h with h | ⟨rfl, h⟩ | ⟨_, h⟩
  · exact .inl h
  · exact .inr (out_in h ha)
  · exact .inr h

theorem J_dot {t o lb : List UInt8} {a : Nat} {R : Option (List UInt8)} (h : J t o lb a R) (ha : a < t.length) (hc : t[a].toNat = 46) :
    J t (o ++ UInt8.ofNat lb.length :: lb) [] (a + 1) R ∧ (255 < lb.length → R = none) := by
  rcases h.inn ha with h | h
  · exact ⟨.inl h, fun _ => h⟩
  · cases hs : sizeB lb.length with
    | true => exact ⟨.inr (.inl ⟨rfl, in_dot h ha hc hs⟩), fun hl => by simp [sizeB] at hs; omega⟩
    | false => exact ⟨.inl (in_dot_no h ha hc hs), fun _ => in_dot_no h ha hc hs⟩

theorem J_plain {t o lb : List UInt8} {a : Nat} {R : Option (List UInt8)} (h : J t o lb a R) (ha : a < t.length) (hc : t[a].toNat ≠ 46) (h92 : t[a].toNat = 92 → t.length ≤ a + 3) :
    J t o (lb ++ [t[a]]) (a + 1) R := by
  rcases h.inn ha with h | h
  · exact .inl h
  · have hd := drop_at t a ha
    cases hs : standsB t[a].toNat with
    | true =>
      have hr : rb (t.drop a) = some (t[a], 1) := by rw [hd]; exact rb_stands hs
      exact .inr (.inr ⟨by simp, in_some h ha hc hr⟩)
    | false =>
      refine .inl (in_none h ha hc ?_)
      rw [hd]
      by_cases e : t[a].toNat = 92
      · exact rb_short hs (by have := h92 e; simp; omega)
      · exact rb_other hs e

/-- What three bytes tell, loosely. -/
def loose (x y z : UInt8) : Int := 100 * ((x.toNat : Int) - 48) + 10 * ((y.toNat : Int) - 48) + (z.toNat : Int) - 48

theorem J_told {t o lb : List UInt8} {a : Nat} {R : Option (List UInt8)} (h : J t o lb a R) (ha : a + 3 < t.length) (h92 : t[a].toNat = 92) (b : UInt8) (hb : (b.toNat : Int) = loose t[a + 1] t[a + 2] t[a + 3] % 256) :
    J t o (lb ++ [b]) (a + 4) R := by
  rcases h.inn (by omega) with h | h
  · exact .inl h
  · have hst : standsB t[a].toNat = false := by rw [h92]; decide
    have hd : t.drop a = t[a] :: t[a + 1] :: t[a + 2] :: t[a + 3] :: t.drop (a + 4) := by
      rw [drop_at t a (by omega), drop_at t (a + 1) (by omega), drop_at t (a + 2) (by omega), drop_at t (a + 3) (by omega)]
    have hr : rb (t.drop a) = if tells t[a + 1] t[a + 2] t[a + 3] then some (UInt8.ofNat (val3 t[a + 1] t[a + 2] t[a + 3]), 4) else none := by rw [hd]; exact rb_tells hst h92
    by_cases ht : tells t[a + 1] t[a + 2] t[a + 3] = true
    · rw [if_pos ht] at hr
      have hv : UInt8.ofNat (val3 t[a + 1] t[a + 2] t[a + 3]) = b := by
        simp only [tells, dig, Bool.and_eq_true, decide_eq_true_eq, Bool.not_eq_true'] at ht
        obtain ⟨⟨⟨⟨hx, hy⟩, hz⟩, hv⟩, _⟩ := ht
        apply UInt8.toNat_inj.1
        rw [toNat_of (by omega)]
        unfold loose at hb
        unfold val3 at hv ⊢
        omega
      rw [hv] at hr
      exact .inr (.inr ⟨by simp, in_some h (by omega) (by omega) hr⟩)
    · rw [if_neg ht] at hr
      exact .inl (in_none h (by omega) (by omega) hr)

theorem PIn_short {t o lb l : List UInt8} {a : Nat} (h : PIn t o lb a (some l)) : o.length < 255 := by
  obtain ⟨f, _, h⟩ := h
  obtain ⟨lab, T, N, _, _, h3, h4, _, h6⟩ := pin_gives f o lb _ l h
  rw [h3] at h6
  simp at h6
  omega

/-- Where the loose reading ends. -/
theorem J_end {t o lb : List UInt8} {a : Nat} {R : Option (List UInt8)} (h : J t o lb a R) (he : t.length ≤ a ∨ 255 < o.length) : R = none ∨ R = some (o ++ [0]) := by
  by_cases ha : t.length ≤ a
  · rcases h with h | ⟨_, h⟩ | ⟨_, h⟩
    · exact .inl h
    · have := out_end h ha
      rw [this, fin]
      split
      · exact .inl rfl
      · exact .inr rfl
    · exact .inl (in_end h ha)
  · have ho : 255 < o.length := by omega
    rcases h.inn (by omega) with h | h
    · exact .inl h
    · match R with
      | none => exact .inl rfl
      | some l => have := PIn_short h; omega

/-- The reading of the whole text, once its name has been written again and held against it. -/
theorem loose_ends {t S : List UInt8} {R : Option (List UInt8)} (hR : R = prs t) (h : R = none ∨ R = some S) : prs t = if isName S = true ∧ tx S = t then some S else none := by
  subst hR
  rcases h with h | h
  · rw [h, if_neg]
    rintro ⟨h1, h2⟩
    rw [← h2, prs_tx h1] at h
    simp at h
  · rw [h, if_pos (tx_prs h)]

theorem J_start (t : List UInt8) (h : t ≠ [46]) : J t [] [] 0 (prs t) := by
  by_cases h0 : t.length = 0 ∨ 1020 < t.length
  · exact .inl (by rw [prs, if_neg h, if_pos h0])
  · exact .inr (.inl ⟨rfl, out_start (by omega) (by omega) h⟩)

end Go.Proofs.Ytbffnicfibfceaa.Pl

/- What places, May, Count and plain of the document's answers give, for every string. -/
namespace Go.Proofs.Ytbffnicfibfceaa
open Go.RowKit
open Pl

/-- A place as a cell. -/
def iv (n : Nat) : Value := .int .i64 (n : Int)

theorem info3 : (Try.prog.info? 3).map (fun i => (i.zero, i.size, i.bytes)) = some (some (.int .i64 0), 1, 8) := by kernel_rfl

/-- Numbers that have just been laid in a block of their own are appended to a row of numbers that the call owns. -/
theorem wpList_appI {w0 : World} {ops : Array Oper} {rest : List Oper} {o : Oper} {a : Act} {Q : Exit → Act → World → Prop} (hgd : o.guard = none) (s x : Operand)
    (ho : o.op = .call { callee := .builtin .append, args := #[s, x], argTypes := #[94, 94] }) (w : World) (L : List Value) (hw : w0 = w.alloc (.cells L.toArray 3)) (base : Nat) (v : Value) (n : Nat) (xs : List Value) (hs : a.eval s = v) (hown : w.ownsRow base 3 1 v n xs)
    (hx : a.eval x = .slice (some ⟨w.heap.size, 0, none⟩) L.length L.length) (hL : ∀ u ∈ L, ∃ z, u = .int .i64 z) (hm : 0 < L.length) (hn : n + L.length ≤ 10000000000000) (hbase : base ≤ w.heap.size)
    (h : ∀ g cap w', w'.ownsRow base 3 1 (.slice (some ⟨g, 0, none⟩) (n + L.length) cap) (n + L.length) (xs ++ L) → w.grownBy w' v.ownBlock → (v.ownBlock = some g ∨ w.heap.size ≤ g) → g < w'.heap.size →
      wpList Try.prog ops Q rest (a.put o.dst (.slice (some ⟨g, 0, none⟩) (n + L.length) cap)) w') : wpList Try.prog ops Q (o :: rest) a w0 := by
  subst hw
  obtain ⟨i0, hi, hz0, hz1, hz2⟩ := info_parts info3
  refine wpList_append_lies _ hgd s x 94 ho base 3 i0 (.int .i64 0) 1 8 Try.underlying94 hi hz0 hz1 hz2 rfl (by decide) v n xs hs (hown.alloc _) ⟨w.heap.size, 0, none⟩ L.length L.length L hx (by omega)
    (by simpa using World.news_of_block (heap_alloc_new w (.cells L.toArray 3))) (fun u hu => by obtain ⟨z, rfl⟩ := hL u hu; rfl) hm (by unfold maxLen; omega) (by omega) (by simp; omega) (w.heap.size + 1) (by simp) ?_
  intro g cap w' h1 h2 h3 h4
  refine h g cap w' h1 ?_ (h3.imp id (fun e => by omega)) h4
  refine ⟨h2.os, h2.tape, h2.output, ?_, fun k hk hne => ?_⟩
  · have := h2.size; simp at this; omega
  · exact (h2.block k (by simp; omega) hne).trans (Below.heap_alloc w _ k hk)

/-- What places leaves. -/
def PlPost (l : List UInt8) (w w' : World) (v : Value) : Prop :=
  isName l = true → ∃ g cap qs, v = .slice (some ⟨g, 0, none⟩) qs.length cap ∧ Places l qs ∧ w'.ownsRow w.heap.size 3 1 (.slice (some ⟨g, 0, none⟩) qs.length cap) qs.length (qs.map iv)

theorem pl_no {l : List UInt8} {w w' : World} {v : Value} (h : nm l = none) (hb : Below w.heap.size w w') : ∃ v', Ending.returned (.tuple #[v, .bool false]) = .returned (.tuple #[v', .bool (isName l)]) ∧ Below w.heap.size w w' ∧ PlPost l w w' v' := by
  have hn : isName l = false := by unfold isName; rw [h]; rfl
  exact ⟨v, by rw [hn], hb, fun e => by rw [hn] at e; simp at e⟩

theorem pl_yes {l : List UInt8} {w w' : World} {g cap n p : Nat} {qs : List Nat} (hn : n = qs.length) (hown : w'.ownsRow w.heap.size 3 1 (.slice (some ⟨g, 0, none⟩) (n + 1) cap) (n + 1) (qs.map iv ++ [.int .i64 (p : Int)])) (h : isName l = true ∧ Places l (qs ++ [p])) (hb : Below w.heap.size w w') :
    ∃ v', Ending.returned (.tuple #[.slice (some ⟨g, 0, none⟩) (n + 1) cap, .bool true]) = .returned (.tuple #[v', .bool (isName l)]) ∧ Below w.heap.size w w' ∧ PlPost l w w' v' := by
  subst hn
  refine ⟨_, by rw [h.1], hb, fun _ => ⟨g, cap, qs ++ [p], by simp, h.2, ?_⟩⟩
  have e : (qs ++ [p]).map iv = qs.map iv ++ [.int .i64 (p : Int)] := by simp [iv]
  rw [e, show (qs ++ [p]).length = qs.length + 1 from by simp]
  exact hown

theorem pl_next {w : World} {B n p : Nat} {v : Value} {qs : List Nat} (h : w.ownsRow B 3 1 v n (qs.map iv ++ [.int .i64 (p : Int)])) : w.ownsRow B 3 1 v n ((qs ++ [p]).map iv) := by
  rw [show (qs ++ [p]).map iv = qs.map iv ++ [.int .i64 (p : Int)] from by simp [iv]]; exact h

set_option maxRecDepth 20000 in
set_option maxHeartbeats 1000000 in
theorem places_any (s : ByteArray) (w : World) (hs : s.size ≤ maxLen) :
    Calls Try.prog 46 #[.string s] w fun e w' => ∃ v, e = .returned (.tuple #[v, .bool (isName s.data.toList)]) ∧ Below w.heap.size w w' ∧ PlPost s.data.toList w w' v := by
  unfold maxLen at hs
  have hl := data_len s
  by_cases h : s.size ≤ 255
  · go_enter Try.func46, Try.ntmps46
    go_wp2
    go_loopw [4, 5] (fun v i wr => ∃ (p n : Nat) (qs : List Nat), n ≤ p ∧ p ≤ 400 ∧ i = .int .i64 p ∧ n = qs.length ∧ wr.ownsRow w.heap.size 3 1 v n (qs.map iv) ∧ Below w.heap.size w wr ∧ Hid (At s.data.toList p n) ∧ Hid (LbSteps s.data.toList (qs ++ [p]))) (fun _ i _ => s.size - (intOf i).toNat)
    case atStart => exact ⟨0, 0, [], Nat.zero_le _, by omega, rfl, rfl, World.ownsRow_nil _ _ _ _, Below.refl _ _, at_start _, steps_start _⟩
    case round =>
      obtain ⟨p, n, qs, hnp, hp4, rfl, hnq, hown, hbel, hat, hst⟩ := hrel
      have HNQ : Hid (n = qs.length) := hnq
      clear hnq
      have hB : w.heap.size ≤ wr.heap.size := hbel.size
      have hn := nm_short (l := s.data.toList) (by omega)
      have HN : Hid (nm s.data.toList = nmS 0 s.data.toList) := hn
      clear hn
      by_cases hlt : p < s.size
      · have hb := UInt8.toNat_lt (s[p])
        have hlt' : p < s.data.toList.length := by omega
        by_cases h0 : ((s[p].toNat : Int) == 0) = true
        · have hz : s[p].toNat = 0 := by simpa using h0
          have HZ : Hid (s[p].toNat = 0) := hz
          clear hz
          by_cases he : (((p : Int) + 1) == (s.size : Int)) = true
          · have HP : Hid (isName s.data.toList = true ∧ Places s.data.toList (qs ++ [p])) := places_end hst.out (by rw [← HNQ.out]; exact hat.out) (by omega) hlt' HZ.out (by simp at he; omega)
            go_wp2_with (at_builtin; refine wpList_appI rfl _ _ rfl _ _ rfl w.heap.size _ _ _ rfl hown rfl (by simp) (by simp) (by simp; omega) hB ?_; intro g cap w2 h1 h2 h3 h4)
            have hbel2 := hbel.grown h2 hB (fun k e => (hown.lt k e).1)
            go_ret2
            exact pl_yes HNQ.out h1 HP.out hbel2
          · have HE : Hid (nm s.data.toList = none) := by
              unfold Hid; rw [HN.out, at_end hat.out hlt' HZ.out, if_neg (by simp at he; omega)]
            go_wp2_with (at_builtin; refine wpList_appI rfl _ _ rfl _ _ rfl w.heap.size _ _ _ rfl hown rfl (by simp) (by simp) (by simp; omega) hB ?_; intro g cap w2 h1 h2 h3 h4)
            have hbel2 := hbel.grown h2 hB (fun k e => (hown.lt k e).1)
            go_ret2
            exact pl_no HE.out hbel2
        · have hz : s[p].toNat ≠ 0 := by simpa using h0
          by_cases h63 : s[p].toNat ≤ 63
          · have HE : Hid (At s.data.toList (p + (1 + s[p].toNat)) (n + 1)) := at_step hat hlt' hz h63
            have HSS : Hid (LbSteps s.data.toList (qs ++ [p] ++ [p + 1 + s[p].toNat])) := steps_next hst hlt' hz
            go_wp2_with (at_builtin; refine wpList_appI rfl _ _ rfl _ _ rfl w.heap.size _ _ _ rfl hown rfl (by simp) (by simp) (by simp; omega) hB ?_; intro g cap w2 h1 h2 h3 h4)
            go_roundw
            case rel => exact ⟨p + 1 + s[p].toNat, n + 1, qs ++ [p], by omega, by omega, by go_num, by simp [HNQ.out], pl_next h1, hbel.grown h2 hB (fun k e => (hown.lt k e).1), by rw [show p + 1 + s[p].toNat = p + (1 + s[p].toNat) from by omega]; exact HE, HSS⟩
            case measure => simp [intOf]; omega
          · have HE : Hid (nm s.data.toList = none) := HN.out.trans (at_great hat hlt' (by show 63 < s[p].toNat; omega))
            go_wp2_with (at_builtin; refine wpList_appI rfl _ _ rfl _ _ rfl w.heap.size _ _ _ rfl hown rfl (by simp) (by simp) (by simp; omega) hB ?_; intro g cap w2 h1 h2 h3 h4)
            have hbel2 := hbel.grown h2 hB (fun k e => (hown.lt k e).1)
            go_ret2
            exact pl_no HE.out hbel2
      · have HE : Hid (nm s.data.toList = none) := HN.out.trans (at_past hat (by omega))
        go_wp2
        go_ret2
        exact pl_no HE.out hbel
  · have HE : Hid (nm s.data.toList = none) := by unfold Hid nm; rw [if_pos (by omega)]
    go_enter Try.func46, Try.ntmps46
    go_wp2
    refine wp_loop_rounds 1 ?_
    rw [rounds_succ]
    go_wp2
    all_goals go_ret2
    all_goals exact pl_no HE.out (Below.refl _ _)

theorem cnt_none' {l : List UInt8} (h : isName l = false) : cnt l = 0 := by
  unfold isName at h
  unfold cnt
  cases hn : nm l with
  | none => rfl
  | some n => rw [hn] at h; simp at h

theorem refMay_any (s : ByteArray) (w : World) (hs : s.size ≤ maxLen) :
    Calls Try.prog 31 #[.string s] w fun e w' => e = .returned (.bool (isName s.data.toList)) ∧ Below w.heap.size w w' := by
  go_enter Try.func31, Try.ntmps31
  go_wp2_with (go_at_call 46; refine (places_any _ _ hs).mono ?_; rintro e w' ⟨v, rfl, hb, hp⟩)
  go_ret
  exact ⟨rfl, hb⟩


end Go.Proofs.Ytbffnicfibfceaa

/- What Clone of the library gives: the same bytes; then Parent of package rel. -/
namespace Go.Proofs.Ytbffnicfibfceaa
open Go.RowKit
open Pl

theorem below_drew {w w' : World} (h : ∃ m, w' = w.drewN m) : Below w.heap.size w w' := by
  obtain ⟨m, rfl⟩ := h
  exact ⟨rfl, rfl, rfl, Nat.le_refl _, fun _ _ => rfl⟩

/-- The world behind a copy of bytes. -/
theorem clone_steps (s : ByteArray) (w : World) (h0 : s.size ≠ 0) (h1 : s.size ≤ 140737488355328) : ∃ (wa wb wc : World),
    (∀ u : World, u = w → (Instr.makeSlice 81 (.int .i64 (s.size : Int)) (.int .i64 (s.size : Int))).run Try.prog u = .ok (.slice (some ⟨w.heap.size, 0, none⟩) s.size s.size) wa) ∧
    (Builtin.copy_ #[81, 9] 3 #[.slice (some ⟨w.heap.size, 0, none⟩) s.size s.size, .string s]).run Try.prog wa = .ok (goInt s.size) wb ∧
    (Builtin.unsafeString_ #[117, 3] 9 #[.pointer (some ⟨w.heap.size, 0, none⟩), .int .i64 (s.size : Int)]).run Try.prog wb = .ok (.string s) wc ∧ Below w.heap.size w wc := by
  obtain ⟨i0, hi, hz0, hz1, hz2⟩ := info_parts info5
  have hone : (Try.prog.info? 5).map (·.size) = some 1 := by rw [hi]; simp [hz1]
  have hco : Try.prog.cellsOf 5 = 1 := by simp [Program.cellsOf, hi, hz1]
  have hmk := run_make (P := Try.prog) w 81 5 i0 (.int .u8 0) Try.underlying81 hi hz0 .i64 .i64 (s.size : Int) (s.size : Int) (by omega) (by omega) (by rw [hz2]; omega) (by omega)
  obtain ⟨M, hM⟩ : ∃ M, M = madeCells (Value.int .u8 0).cells (((s.size : Nat) : Int).toNat * i0.size) := ⟨_, rfl⟩
  have hMs : M.size = s.size := by rw [hM, size_madeCells, hz1]; simp
  rw [← hM] at hmk
  have hcp := Lib.run_copy_row_string (P := Try.prog) (w.alloc (.cells M 5)) 81 9 3 5 w.heap.size 0 s.size s.size s M 5 Try.underlying81 hone (heap_alloc_new w _) (Nat.le_refl _) (by omega)
  obtain ⟨Y, hY⟩ : ∃ Y, Y = (M.toList.take 0 ++ Lib.byteCells s.data.toList ++ M.toList.drop (0 + s.size)).toArray := ⟨_, rfl⟩
  rw [← hY] at hcp
  have hYl : Y.toList = Lib.byteCells s.data.toList := by
    rw [hY]
    simp [List.drop_of_length_le, hMs]
  have hYs : Y.size = s.size := by rw [← Array.length_toList, hYl, Lib.byteCells_length, data_len]
  have hgY : ((w.alloc (.cells M 5)).setRow w.heap.size Y).heap[w.heap.size]? = some (.cells Y 5 (0, 0)) := setRow_heap _ _ M _ 5 (0, 0) (heap_alloc_new w _)
  have hne : s.data.toList ≠ [] := fun e => h0 (by rw [← data_len, e]; rfl)
  have hus := Lib.run_unsafeString_row (P := Try.prog) ((w.alloc (.cells M 5)).setRow w.heap.size Y) 117 3 9 5 Try.underlying117 hco w.heap.size Y.size (by unfold World.shape?; rw [hgY]) s.data.toList hne (by rw [data_len]; omega) (by rw [data_len]; omega)
    (fun j x hx => Lib.cells_of_row hgY Y.size j _ (by rw [List.take_of_length_le (by rw [Array.length_toList]; exact Nat.le_refl _), hYl]; simp [Lib.byteCells, hx]))
  rw [data_len] at hus
  refine ⟨_, _, _, fun u hu => by rw [hu]; simpa using hmk, hcp, hus, ?_⟩
  have hb1 : Below w.heap.size w (w.alloc (.cells M 5)) := lay (Below.refl _ _) _
  have hb2 : Below w.heap.size (w.alloc (.cells M 5)) ((w.alloc (.cells M 5)).setRow w.heap.size Y) := ⟨rfl, rfl, rfl, by simp, fun k hk => setRow_other _ _ _ _ (by omega)⟩
  exact Lib.below_freeze (hb1.trans hb2) (p := ⟨w.heap.size, 0, none⟩) (Nat.le_refl _) _

set_option maxRecDepth 20000 in
theorem liteClone_any (s : ByteArray) (w : World) (h1 : s.size ≤ 140737488355328) :
    Calls Try.prog 67 #[.string s] w fun e w' => e = .returned (.string s) ∧ Below w.heap.size w w' := by
  by_cases h0 : s.size = 0
  · have hs : s = ⟨#[]⟩ := by
      apply ByteArray.ext
      exact Array.eq_empty_of_size_eq_zero h0
    subst hs
    go_enter Try.func67, Try.ntmps67
    go_wp2
    go_ret
    exact ⟨rfl, Below.refl _ _⟩
  · obtain ⟨wa, wb, wc, hmk0, hcp, hus, hbel⟩ := clone_steps s w h0 h1
    have hmk := hmk0 w rfl
    clear hmk0
    have h00 : ((s.size : Int) == 0) = false := by rw [beq_eq_false_iff_ne]; omega
    have h02 : (0 : Int) < (s.size : Int) := by omega
    go_enter Try.func67, Try.ntmps67
    go_wp2
    go_ret
    exact ⟨rfl, hbel⟩

theorem clone_far (s : ByteArray) (w : World) (h1 : s.size ≤ 140737488355328) :
    Calls Try.prog 62 #[.string s] w fun e w' => e = .returned (.string s) ∧ Below w.heap.size w w' := by
  go_enter Try.func62, Try.ntmps62
  go_wp2_with (go_at_call 67; refine (liteClone_any _ _ h1).mono ?_; rintro e w1 ⟨rfl, hb1⟩)
  go_ret
  exact ⟨rfl, hb1⟩
theorem clone_any (s : ByteArray) (w : World) (h1 : s.size ≤ 1000000) :
    Calls Try.prog 62 #[.string s] w fun e w' => e = .returned (.string s) ∧ Below w.heap.size w w' := clone_far s w (by omega)

end Go.Proofs.Ytbffnicfibfceaa

/- What U16, U32, Put16 and Put32 of package octet give, for every argument. -/
namespace Go.Proofs.Ytbffnicfibfceaa
open Go.RowKit

/-- The byte of a number that stands at d, a power of 256. -/
def oct (x d : Int) : UInt8 := UInt8.ofNat (x / d % 256).toNat
theorem oct_nat (x d : Int) : ((oct x d).toNat : Int) = x / d % 256 := by
  unfold oct
  have h0 : 0 ≤ x / d % 256 := Int.emod_nonneg _ (by decide)
  have h1 : x / d % 256 < 256 := Int.emod_lt_of_pos _ (by decide)
  rw [UInt8.toNat_ofNat']
  omega

/-- The number of two bytes, of four. -/
def two (a b : UInt8) : Int := 256 * (a.toNat : Int) + (b.toNat : Int)
def four (a b c d : UInt8) : Int := 65536 * two a b + two c d
/-- A number as two bytes, as four. -/
def be2 (x : Int) : ByteArray := ⟨#[oct x 256, oct x 1]⟩
def be4 (x : Int) : ByteArray := ⟨#[oct x 16777216, oct x 65536, oct x 256, oct x 1]⟩

theorem two_be (x : Int) : two (oct x 256) (oct x 1) = x % 65536 := by
  unfold two; rw [oct_nat, oct_nat]; omega
theorem four_be (x : Int) : four (oct x 16777216) (oct x 65536) (oct x 256) (oct x 1) = x % 4294967296 := by
  unfold four two; rw [oct_nat, oct_nat, oct_nat, oct_nat]; omega
theorem two_lt (a b : UInt8) : 0 ≤ two a b ∧ two a b < 65536 := by
  unfold two; have := a.toNat_lt; have := b.toNat_lt; omega


theorem or8 (a b : Nat) (ha : a < 256) (hb : b < 256) : bits .or .u16 ((a : Int) * 256) (b : Int) = 256 * (a : Int) + (b : Int) := by
  have e : ((a : Int) * 256) = ((a * 2 ^ 8 : Nat) : Int) := by omega
  rw [e, u16_or_nat _ _ (by omega) (by omega), Nat.mul_comm, ← Nat.two_pow_add_eq_or_of_lt (by omega)]
  omega
theorem or16 (a b : Nat) (ha : a < 65536) (hb : b < 65536) : bits .or .u32 ((a : Int) * 65536) (b : Int) = 65536 * (a : Int) + (b : Int) := by
  have e : ((a : Int) * 65536) = ((a * 2 ^ 16 : Nat) : Int) := by omega
  rw [e, u32_or_nat _ _ (by omega) (by omega), Nat.mul_comm, ← Nat.two_pow_add_eq_or_of_lt (by omega)]
  omega


theorem holds_yes (s : ByteArray) (k n : Nat) (w : World) (hs : s.size ≤ maxLen) (h : k + n ≤ s.size) :
    Calls Try.prog 49 #[.string s, .int .i64 k, .int .i64 n] w fun e w' => e = .returned (.bool true) ∧ w' = w := by
  unfold maxLen at hs
  have h1 : (0 : Int) ≤ k := by omega
  have h2 : (k : Int) ≤ (s.size : Int) - n := by omega
  go_enter Try.func49, Try.ntmps49
  go_wp2
  go_ret
  exact ⟨rfl, rfl⟩

theorem holds_no (s : ByteArray) (x : Int) (n : Nat) (w : World) (hs : s.size ≤ maxLen) (hn : n ≤ 4) (h : x < 0 ∨ (s.size : Int) < x + n) :
    Calls Try.prog 49 #[.string s, .int .i64 x, .int .i64 n] w fun e w' => e = .returned (.bool false) ∧ w' = w := by
  unfold maxLen at hs
  by_cases h1 : (0 : Int) ≤ x
  · have h2 : decide (x ≤ (s.size : Int) - n) = false := by simp; omega
    clear h
    go_enter Try.func49, Try.ntmps49
    go_wp2
    go_ret
    exact ⟨rfl, rfl⟩
  · have h2 : decide ((0 : Int) ≤ x) = false := by simp; omega
    clear h
    go_enter Try.func49, Try.ntmps49
    go_wp2
    go_ret
    exact ⟨rfl, rfl⟩


theorem number16_any (s : ByteArray) (a b : UInt8) (w : World) (h : 2 ≤ s.size) (ha : s[0] = a) (hb : s[1] = b) :
    Calls Try.prog 50 #[.string s] w fun e w' => e = .returned (.int .u16 (two a b)) ∧ ∃ m, w' = w.drewN m := by
  subst ha
  subst hb
  have h0 := s[0].toNat_lt
  have h1 := s[1].toNat_lt
  have hor := or8 s[0].toNat s[1].toNat h0 h1
  have i0 := idx s 0 0 rfl (by omega)
  have i1 := idx s 1 1 rfl (by omega)
  go_enter Try.func50, Try.ntmps50
  go_wp2
  go_quiet (fail)
  go_wp2
  go_ret
  exact ⟨rfl, _, rfl⟩

theorem ext_at (s : ByteArray) (k j : Nat) (h : k + j < s.size) : (s.extract k s.size)[j]'(by simp; omega) = s[k + j] := by
  show (s.extract k s.size).data[j]'(by have : j < (s.extract k s.size).size := by simp; omega
                                        exact this) = s.data[k + j]'h
  simp only [ByteArray.data_extract, Array.getElem_extract]





theorem number16_ext (s : ByteArray) (k j : Nat) (w : World) (hj : j = k + 1) (h : k + 2 ≤ s.size) :
    Calls Try.prog 50 #[.string (s.extract k s.size)] w fun e w' => e = .returned (.int .u16 (two s[k] s[j])) ∧ ∃ m, w' = w.drewN m := by
  subst hj
  exact number16_any _ s[k] s[k + 1] w (by simp; omega) (ext_at s k 0 (by omega)) (ext_at s k 1 (by omega))

theorem cut_from (s : ByteArray) (k : Nat) (h : k ≤ s.size) (u : World) : (Instr.slice 9 (.string s) (some (.int .i64 (k : Int))) none none).run Try.prog u = .ok (.string (s.extract k s.size)) u := by
  have := run_slice_string_l (P := Try.prog) (w := u) (t := 9) (s := s) Try.underlying9 .i64 (k : Int) (by omega) (by omega)
  rw [this]; rfl

theorem u16_yes (s : ByteArray) (k : Nat) (w : World) (hs : s.size ≤ maxLen) (h : k + 2 ≤ s.size) :
    Calls Try.prog 37 #[.string s, .int .i64 (k : Int)] w fun e w' => e = .returned (.tuple #[.int .i64 (two s[k] s[k + 1]), .int .i64 ((k : Int) + 2), .int .i64 0]) ∧ ∃ m, w' = w.drewN m := by
  have hcut := cut_from s k (by omega)
  have hlt := two_lt s[k] s[k + 1]
  unfold maxLen at hs
  go_enter Try.func37, Try.ntmps37
  go_wp2_with (first
    | (go_at_call 49; go_must (refine (holds_yes s k 2 _ (by unfold maxLen; omega) h).mono ?_); rintro e w' ⟨rfl, hw⟩; obtain rfl := hw.symm)
    | (go_at_call 50; go_must (refine (number16_ext s k (k + 1) _ rfl h).mono ?_); rintro e w' ⟨rfl, m, rfl⟩))
  refine bodyPost_ret (v := .tuple #[.int .i64 (two s[k] s[k + 1]), .int .i64 ((k : Int) + 2), .int .i64 0]) (by simp [results, Try.results37, go_sem]) rfl ⟨rfl, _, rfl⟩

theorem u16_no (s : ByteArray) (x : Int) (w : World) (hs : s.size ≤ maxLen) (h : x < 0 ∨ (s.size : Int) < x + 2) :
    Calls Try.prog 37 #[.string s, .int .i64 x] w fun e w' => e = .returned (.tuple #[.int .i64 0, .int .i64 0, .int .i64 300]) ∧ w' = w := by
  go_enter Try.func37, Try.ntmps37
  go_wp2_with (go_at_call 49; go_must (refine (holds_no s x 2 _ hs (by omega) (by simpa using h)).mono ?_); rintro e w' ⟨rfl, hw⟩; obtain rfl := hw.symm)
  refine bodyPost_ret (v := .tuple #[.int .i64 0, .int .i64 0, .int .i64 300]) (by simp [results, Try.results37, go_sem]) rfl ⟨rfl, rfl⟩

theorem u32_no (s : ByteArray) (x : Int) (w : World) (hs : s.size ≤ maxLen) (h : x < 0 ∨ (s.size : Int) < x + 4) :
    Calls Try.prog 41 #[.string s, .int .i64 x] w fun e w' => e = .returned (.tuple #[.int .i64 0, .int .i64 0, .int .i64 300]) ∧ w' = w := by
  go_enter Try.func41, Try.ntmps41
  go_wp2_with (go_at_call 49; go_must (refine (holds_no s x 4 _ hs (by omega) (by simpa using h)).mono ?_); rintro e w' ⟨rfl, hw⟩; obtain rfl := hw.symm)
  refine bodyPost_ret (v := .tuple #[.int .i64 0, .int .i64 0, .int .i64 300]) (by simp [results, Try.results41, go_sem]) rfl ⟨rfl, rfl⟩

theorem u32_yes (s : ByteArray) (k : Nat) (w : World) (hs : s.size ≤ maxLen) (h : k + 4 ≤ s.size) :
    Calls Try.prog 41 #[.string s, .int .i64 (k : Int)] w fun e w' => e = .returned (.tuple #[.int .i64 (four s[k] s[k + 1] s[k + 2] s[k + 3]), .int .i64 ((k : Int) + 4), .int .i64 0]) ∧ ∃ m, w' = w.drewN m := by
  have hcut := cut_from s k (by omega)
  have hcut2 := cut_from s (k + 2) (by omega)
  rw [show ((k + 2 : Nat) : Int) = (k : Int) + 2 from by omega] at hcut2
  have hlt := two_lt s[k] s[k + 1]
  have hlt2 := two_lt s[k + 2] s[k + 3]
  unfold maxLen at hs
  have hor : bits .or .u32 (two s[k] s[k + 1] * 65536) (two s[k + 2] s[k + 3]) = four s[k] s[k + 1] s[k + 2] s[k + 3] := by
    have := or16 (two s[k] s[k + 1]).toNat (two s[k + 2] s[k + 3]).toNat (by omega) (by omega)
    rw [Int.toNat_of_nonneg hlt.1, Int.toNat_of_nonneg hlt2.1] at this
    exact this
  have w1 : IntKind.u32.wrap (two s[k] s[k + 1]) = two s[k] s[k + 1] := by rw [IntKind.wrap_u32]; omega
  have w2 : IntKind.u32.wrap (two s[k] s[k + 1] * 65536) = two s[k] s[k + 1] * 65536 := by rw [IntKind.wrap_u32]; omega
  have w3 : IntKind.u32.wrap (two s[k + 2] s[k + 3]) = two s[k + 2] s[k + 3] := by rw [IntKind.wrap_u32]; omega
  have w4 : IntKind.i64.wrap ((k : Int) + 2) = (k : Int) + 2 := by rw [IntKind.wrap_i64]; omega
  have hf : 0 ≤ four s[k] s[k + 1] s[k + 2] s[k + 3] ∧ four s[k] s[k + 1] s[k + 2] s[k + 3] < 4294967296 := by unfold four; omega
  go_enter Try.func41, Try.ntmps41
  go_wp2_with (go_at_call 49; go_must (refine (holds_yes s k 4 _ (by unfold maxLen; omega) h).mono ?_); rintro e w' ⟨rfl, hw⟩; obtain rfl := hw.symm)
  go_quiet (first
    | (go_at_call_of 50 (#[Value.string (s.extract k s.size)]); go_must (exact Calls.quiet_of (number16_ext s k (k + 1) _ rfl (by omega))))
    | (go_at_call 50; go_must (exact Calls.quiet_of (number16_ext s (k + 2) (k + 3) _ rfl (by omega)))))
  go_wp2
  go_ret3
  exact ⟨rfl, _, rfl⟩

end Go.Proofs.Ytbffnicfibfceaa

/- What awake gives: true. -/
namespace Go.Proofs.Ytbffnicfibfceaa
open Go.RowKit



end Go.Proofs.Ytbffnicfibfceaa

/- U16 and U32 at a place where a number was put; masks. -/
namespace Go.Proofs.Ytbffnicfibfceaa
open Go.RowKit

theorem app_list (a b : ByteArray) : (a ++ b).data.toList = a.data.toList ++ b.data.toList := by simp

theorem drop_get {s : ByteArray} {k : Nat} {l : List UInt8} (h : s.data.toList.drop k = l) (j : Nat) (hj : j < l.length) : ∃ h2 : k + j < s.size, s[k + j] = l[j] := by
  have h1 : l.length = s.size - k := by rw [← h, List.length_drop, data_len]
  have h2 : k + j < s.size := by omega
  refine ⟨h2, ?_⟩
  subst h
  rw [List.getElem_drop]
  rfl

theorem u16_at (t : ByteArray) (k : Nat) (x : Int) (post : List UInt8) (w : World) (ht : t.size ≤ maxLen) (h : t.data.toList.drop k = oct x 256 :: oct x 1 :: post) :
    Calls Try.prog 37 #[.string t, .int .i64 (k : Int)] w fun e w' => e = .returned (.tuple #[.int .i64 (x % 65536), .int .i64 ((k : Int) + 2), .int .i64 0]) ∧ ∃ m, w' = w.drewN m := by
  obtain ⟨_, e0⟩ := drop_get h 0 (by simp)
  obtain ⟨h1, e1⟩ := drop_get h 1 (by simp)
  have := u16_yes t k w ht (by omega)
  have f0 : t[k] = oct x 256 := e0
  rw [f0, e1] at this
  simp only [List.getElem_cons_succ, List.getElem_cons_zero] at this
  rw [two_be] at this
  exact this

theorem u32_at (t : ByteArray) (k : Nat) (x : Int) (post : List UInt8) (w : World) (ht : t.size ≤ maxLen) (h : t.data.toList.drop k = oct x 16777216 :: oct x 65536 :: oct x 256 :: oct x 1 :: post) :
    Calls Try.prog 41 #[.string t, .int .i64 (k : Int)] w fun e w' => e = .returned (.tuple #[.int .i64 (x % 4294967296), .int .i64 ((k : Int) + 4), .int .i64 0]) ∧ ∃ m, w' = w.drewN m := by
  obtain ⟨_, e0⟩ := drop_get h 0 (by simp)
  obtain ⟨_, e1⟩ := drop_get h 1 (by simp)
  obtain ⟨_, e2⟩ := drop_get h 2 (by simp)
  obtain ⟨h1, e3⟩ := drop_get h 3 (by simp)
  have := u32_yes t k w ht (by omega)
  have f0 : t[k] = oct x 16777216 := e0
  rw [f0, e1, e2, e3] at this
  simp only [List.getElem_cons_succ, List.getElem_cons_zero] at this
  rw [four_be] at this
  exact this

theorem mask (n : Int) (j : Nat) (hj : j ≤ 62) : bits .and .i64 n (((2 ^ j - 1 : Nat)) : Int) = n % ((2 ^ j : Nat) : Int) := by
  have h2 : 2 ^ j ≤ 2 ^ 62 := Nat.pow_le_pow_right (by decide) hj
  have h1 : 1 ≤ 2 ^ j := Nat.one_le_two_pow
  have h3 : (BitVec.ofInt 64 (((2 ^ j - 1 : Nat)) : Int)).toNat = 2 ^ j - 1 := by
    rw [BitVec.ofInt_natCast, BitVec.toNat_ofNat]; exact Nat.mod_eq_of_lt (by omega)
  have key : (BitVec.ofInt 64 n &&& BitVec.ofInt 64 (((2 ^ j - 1 : Nat)) : Int)).toNat = (n % ((2 ^ 64 : Nat) : Int)).toNat % 2 ^ j := by
    rw [BitVec.toNat_and, BitVec.toNat_ofInt, h3, Nat.and_two_pow_sub_one_eq_mod]
  show IntKind.i64.wrap ((BitVec.ofInt 64 n &&& BitVec.ofInt 64 (((2 ^ j - 1 : Nat)) : Int)).toNat : Nat) = _
  have hl : (n % ((2 ^ 64 : Nat) : Int)).toNat % 2 ^ j < 2 ^ j := Nat.mod_lt _ h1
  rw [key, IntKind.wrap_i64]
  have e1 : (((n % ((2 ^ 64 : Nat) : Int)).toNat % 2 ^ j : Nat) : Int) = n % ((2 ^ j : Nat) : Int) := by
    rw [Int.natCast_emod, Int.toNat_of_nonneg (Int.emod_nonneg _ (by decide))]
    exact Int.emod_emod_of_dvd _ (Int.natCast_dvd_natCast.2 (Nat.pow_dvd_pow 2 (by omega)))
  omega
theorem mask16 (n : Int) : bits .and .i64 n 65535 = n % 65536 := mask n 16 (by decide)
theorem mask32 (n : Int) : bits .and .i64 n 4294967295 = n % 4294967296 := mask n 32 (by decide)
theorem mask1 (n : Int) : bits .and .i64 n 1 = n % 2 := mask n 1 (by decide)

end Go.Proofs.Ytbffnicfibfceaa

/- What the document's Num and Be give. -/
namespace Go.Proofs.Ytbffnicfibfceaa
open Go.RowKit

/-- The number of n bytes from k on. -/
def val (s : ByteArray) (k : Nat) : Nat → Int
  | 0 => 0
  | i + 1 => val s k i * 256 + ((s.data.toList.getD (k + i) 0).toNat : Int)
theorem val_lt (s : ByteArray) (k : Nat) : ∀ i, 0 ≤ val s k i ∧ val s k i < 256 ^ i := by
  intro i
  induction i with
  | zero => simp [val]
  | succ i ih =>
    have := (s.data.toList.getD (k + i) 0).toNat_lt
    unfold val
    rw [Int.pow_succ]
    omega
theorem val_getD (s : ByteArray) (k : Nat) (h : k < s.size) : s.data.toList.getD k 0 = s[k] := by
  rw [List.getD_eq_getElem?_getD, List.getElem?_eq_getElem (by rw [data_len]; exact h)]
  rfl
theorem val_two (s : ByteArray) (k : Nat) (h : k + 2 ≤ s.size) : val s k 2 = two s[k] s[k + 1] := by
  unfold val val val two
  rw [val_getD s _ (by omega), val_getD s _ (by omega)]
  simp only [Nat.add_zero]
  omega
theorem val_four (s : ByteArray) (k : Nat) (h : k + 4 ≤ s.size) : val s k 4 = four s[k] s[k + 1] s[k + 2] s[k + 3] := by
  unfold val val val val val four two
  rw [val_getD s _ (by omega), val_getD s _ (by omega), val_getD s _ (by omega), val_getD s _ (by omega)]
  simp only [Nat.add_zero]
  omega

theorem wraps_i64 (n : Int) (h₀ : 0 ≤ n) (h₁ : n < 2 ^ 62) : IntKind.i64.wrap n = n := by rw [IntKind.wrap_i64]; omega

theorem refNum_yes (s : ByteArray) (k n : Nat) (w : World) (hs : s.size ≤ maxLen) (hn : n ≤ 4) (h : k + n ≤ s.size) :
    Calls Try.prog 43 #[.string s, .int .i64 (k : Int), .int .i64 (n : Int)] w fun e w' => e = .returned (.tuple #[.int .i64 (val s k n), .int .i64 ((k : Int) + n), .int .i64 0]) ∧ w' = w := by
  unfold maxLen at hs
  have t1 : decide ((k : Int) < 0) = false := by simp
  have t2 : decide (s.size < k) = false := by simp; omega
  have t3 : decide ((s.size : Int) - k < n) = false := by simp; omega
  go_enter Try.func43, Try.ntmps43
  go_wp2
  go_loop [9, 10] (fun x i => ∃ j : Nat, j ≤ n ∧ x = .int .i64 (val s k j) ∧ i = .int .i64 (j : Int)) (fun _ i => n - (intOf i).toNat)
  case atStart => exact ⟨0, Nat.zero_le _, rfl, rfl⟩
  case round =>
    obtain ⟨j, hj, rfl, rfl⟩ := hrel
    by_cases hjn : j < n
    · have hkj : k + j < s.size := by omega
      have hi := idx s (k + j) ((k : Int) + j) (by omega) hkj
      have hv := val_lt s k j
      have hp : (256 : Int) ^ j ≤ 256 ^ 3 := by
        have : j = 0 ∨ j = 1 ∨ j = 2 ∨ j = 3 := by omega
        rcases this with rfl | rfl | rfl | rfl <;> decide
      have hb := s[k + j].toNat_lt
      have hor : bits .or .i64 (val s k j * 256) (s[k + j].toNat : Int) = val s k (j + 1) := by
        rw [bits_join .i64 62 (by decide) wraps_i64 8 _ _ (by omega) (by omega) (by omega) (by omega) (by omega) (by omega)]
        show _ = val s k j * 256 + ((s.data.toList.getD (k + j) 0).toNat : Int)
        rw [val_getD s _ hkj]
      have hv2 : 0 ≤ val s k j ∧ val s k j < 16777216 := by omega
      clear hv hp t1 t2 t3
      go_wp2
      go_round
      case rel => exact ⟨j + 1, by omega, rfl, by go_num⟩
      case measure => simp [intOf]; omega
    · have e : j = n := by omega
      subst e
      clear hjn
      go_wp2
      go_ret3
      exact ⟨rfl, rfl⟩

theorem refNum_no (s : ByteArray) (x : Int) (n : Nat) (w : World) (_hs : s.size ≤ maxLen) (hn : n ≤ 4) (h : x < 0 ∨ (s.size : Int) < x + n) :
    Calls Try.prog 43 #[.string s, .int .i64 x, .int .i64 (n : Int)] w fun e w' => e = .returned (.tuple #[.int .i64 0, .int .i64 0, .int .i64 300]) ∧ w' = w := by
  unfold maxLen at _hs
  by_cases t1 : x < 0
  · clear h
    go_enter Try.func43, Try.ntmps43
    go_wp2
    go_ret3
    exact ⟨rfl, rfl⟩
  · have t1' : decide (x < 0) = false := by simpa using t1
    by_cases t2 : (s.size : Int) < x
    · clear h
      go_enter Try.func43, Try.ntmps43
      go_wp2
      go_ret3
      exact ⟨rfl, rfl⟩
    · have t2' : decide ((s.size : Int) < x) = false := by simpa using t2
      have t3 : (s.size : Int) - x < n := by omega
      clear h
      go_enter Try.func43, Try.ntmps43
      go_wp2
      go_ret3
      exact ⟨rfl, rfl⟩

end Go.Proofs.Ytbffnicfibfceaa

/- What the document's Be gives. -/
namespace Go.Proofs.Ytbffnicfibfceaa
open Go.RowKit


theorem made_zero (n : Nat) : madeCells #[.int .u8 0] n = ((List.replicate n (0 : UInt8)).map bv).toArray := by
  apply Array.ext
  · simp [madeCells]
  · intro i h1 h2
    simp [madeCells, bv, Nat.mod_one]

/-- The last j bytes of a number of n bytes, zeros ahead of them. -/
def beL (x : Int) (n j : Nat) : List UInt8 := (List.range n).map fun p => if n - j ≤ p then oct x (256 ^ (n - 1 - p)) else 0
theorem beL_len (x : Int) (n j : Nat) : (beL x n j).length = n := by simp [beL]
theorem beL_zero (x : Int) (n : Nat) : beL x n 0 = List.replicate n 0 := by
  apply List.ext_getElem (by simp [beL])
  intro i h1 h2
  have : i < n := by simpa [beL] using h1
  simp only [beL, List.getElem_map, List.getElem_range, List.getElem_replicate]
  rw [if_neg (by omega)]
theorem beL_set (x : Int) (n j q : Nat) (h : q + 1 + j = n) : (beL x n j).set q (oct x (256 ^ j)) = beL x n (j + 1) := by
  apply List.ext_getElem (by simp [beL])
  intro i h1 h2
  have hi : i < n := by simpa [beL] using h2
  rw [List.getElem_set]
  simp only [beL, List.getElem_map, List.getElem_range]
  split
  · rename_i e
    subst e
    rw [if_pos (by omega), show n - 1 - q = j from by omega]
  · by_cases hj : n - j ≤ i
    · rw [if_pos hj, if_pos (by omega)]
    · rw [if_neg hj, if_neg (by omega)]
theorem beL_two (x : Int) : beL x 2 2 = [oct x 256, oct x 1] := by
  simp [beL, List.range_succ]
theorem beL_four (x : Int) : beL x 4 4 = [oct x 16777216, oct x 65536, oct x 256, oct x 1] := by
  simp [beL, List.range_succ]

theorem set_cells (l : List UInt8) (i : Nat) (b : UInt8) : (l.map bv).set i (.int .u8 (b.toNat : Int)) = (l.set i b).map bv := by
  rw [List.map_set]; rfl

theorem wraps_u64 (n : Int) (h₀ : 0 ≤ n) (h₁ : n < 2 ^ 64) : IntKind.u64.wrap n = n := by
  have : IntKind.u64.wrap n = n % 18446744073709551616 := by simp [IntKind.wrap, IntKind.bits, IntKind.signed]
  rw [this]; omega

theorem u64_byte (x u : Int) (j : Nat) (hj : j ≤ 4) (hu : u = x % 18446744073709551616 / 256 ^ j) : bits .and .u64 u 255 = ((oct x (256 ^ j)).toNat : Int) := by
  have hd : j = 0 ∨ j = 1 ∨ j = 2 ∨ j = 3 ∨ j = 4 := by omega
  have h0 : 0 ≤ u ∧ u < 18446744073709551616 := by
    rcases hd with rfl | rfl | rfl | rfl | rfl <;> subst hu <;> omega
  have := bits_mask .u64 64 (by decide) wraps_u64 8 (by decide) u h0.1 (by omega)
  rw [oct_nat]
  have h2 : bits .and .u64 u 255 = u % 256 := by simpa using this
  rw [h2]
  rcases hd with rfl | rfl | rfl | rfl | rfl <;> subst hu <;> omega


theorem be_any (x : Int) (n : Nat) (w : World) (hn : n ≤ 4) :
    Calls Try.prog 18 #[.int .i64 x, .int .i64 (n : Int)] w fun e w' => e = .returned (.string ⟨(beL x n n).toArray⟩) ∧ Below w.heap.size w w' := by
  obtain ⟨i0, hi, hz0, hz1, hz2⟩ := info_parts info5
  have hb : Below w.heap.size w w := Below.refl _ _
  obtain ⟨U, hU⟩ : ∃ U, U = IntKind.u64.wrap x := ⟨_, rfl⟩
  have hU2 : Hid (U = x % 18446744073709551616) := by
    have : IntKind.u64.wrap x = x % 18446744073709551616 := by simp [IntKind.wrap, IntKind.bits, IntKind.signed]
    unfold Hid; rw [hU, this]
  have hU3 := hU.symm
  clear hU
  go_enter Try.func18, Try.ntmps18
  go_wp2_with (at_make; refine wpList_make_full _ rfl _ _ 81 rfl w.heap.size 5 i0 (.int .u8 0) 1 Try.underlying81 hi hz0 hz1 .i64 .i64 _ _ n rfl rfl rfl rfl (by rw [hz2]; omega) (by unfold maxLen; omega) hb.size ?_; intro w2 hown hgrow; replace hb := next hb (below_of hgrow); clear hgrow)
  obtain ⟨g, hg⟩ : ∃ g, g = w.heap.size := ⟨_, rfl⟩
  rw [← hg] at hown ⊢
  have hgw : w.heap.size ≤ g := (hg ▸ Nat.le_refl _)
  have HG : Hid (g = w.heap.size) := hg
  clear hg
  go_loopw [6, 7] (fun u i wr => ∃ (j : Nat) (v y : Int), j ≤ n ∧ Hid (v = (n : Int) - 1 - j) ∧ Hid (y = x % 18446744073709551616 / 256 ^ j) ∧ 0 ≤ y ∧ y < 18446744073709551616 ∧ u = .int .u64 y ∧ i = .int .i64 v ∧ wr.ownsRow w.heap.size 5 1 (.slice (some ⟨g, 0, none⟩) n n) n ((beL x n j).map bv) ∧ Below w.heap.size w wr) (fun _ i _ => (intOf i + 1).toNat)
  case atStart =>
    refine ⟨0, (n : Int) - 1, U, Nat.zero_le _, by unfold Hid; omega, by unfold Hid; rw [hU2.out]; simp, by rw [hU2.out]; omega, by rw [hU2.out]; omega, rfl, rfl, ?_, hb⟩
    rw [beL_zero]
    have := hown
    rw [← HG.out]
    rw [Nat.mul_one, show (Value.int .u8 0).cells = #[.int .u8 0] from rfl, made_zero] at this
    simpa using this
  case round =>
    clear hown hb
    obtain ⟨j, v, y, hj, hv, hy, hy0, hy1, rfl, rfl, hown, hb⟩ := hrel
    by_cases hjn : j < n
    · obtain ⟨q, hq⟩ : ∃ q : Nat, q + 1 + j = n := ⟨n - 1 - j, by omega⟩
      have hvq : v = (q : Int) := by rw [hv.out]; omega
      subst hvq
      have hqn : q < n := by omega
      have hand := u64_byte x y j (by omega) hy.out
      have HS : Hid ((beL x n j).set q (oct x (256 ^ j)) = beL x n (j + 1)) := beL_set x n j q hq
      obtain ⟨c, hc⟩ : ∃ c : UInt8, c = oct x (256 ^ j) := ⟨_, rfl⟩
      rw [← hc] at hand HS
      have hc8 := c.toNat_lt
      have hst := hown.stored q (.int .u8 (c.toNat : Int))
      have hcell : ∃ v, wr.cell? ⟨g, q, none⟩ = some v := by
        rw [hown.cellAt q (by omega)]
        exact ⟨_, List.getElem?_eq_getElem (by simp [beL_len]; omega)⟩
      obtain ⟨v0, hcell⟩ := hcell
      have hfro := hown.frozenAt q
      have HST : Hid ((wr.setCell ⟨g, q, none⟩ (.int .u8 (c.toNat : Int))).ownsRow w.heap.size 5 1 (.slice (some ⟨g, 0, none⟩) n n) n ((beL x n (j + 1)).map bv)) := by
        have h3 := hst.1
        rw [set_cells, HS.out] at h3
        exact h3
      have HB : Hid (Below w.heap.size w (wr.setCell ⟨g, q, none⟩ (.int .u8 (c.toNat : Int)))) := hb.grown hst.2 hb.size (fun q e => by have := Option.some.inj e; omega)
      have HY : Hid (y / 256 = x % 18446744073709551616 / 256 ^ (j + 1)) := by
        unfold Hid; rw [hy.out, Int.pow_succ, Int.ediv_ediv_of_nonneg (Int.pow_nonneg (by decide))]
      have HQ : Hid (q + 1 + j = n) := hq
      clear hst hc hq hown hb
      go_wp2
      go_roundw
      case rel => exact ⟨j + 1, (q : Int) - 1, y / 256, by omega, by unfold Hid; have := HQ.out; omega, HY, by omega, by omega, by go_num, by go_num, HST.out, HB.out⟩
      case measure => simp [intOf]
    · have hjn : j = n := by omega
      have HJ : Hid (j = n) := hjn
      have hv2 : decide (0 ≤ v) = false := by rw [hv.out]; simp; omega
      rw [HJ.out] at hown
      clear hjn hj
      go_wp2_with (refine wpList_string _ rfl (.tmp 26) rfl w.heap.size n _ (beL x n n) rfl hown ?_)
      go_ret
      exact ⟨rfl, hb⟩

theorem be_two (x : Int) (w : World) : Calls Try.prog 18 #[.int .i64 x, .int .i64 2] w fun e w' => e = .returned (.string (be2 x)) ∧ Below w.heap.size w w' := by
  have := be_any x 2 w (by decide)
  rw [beL_two] at this
  exact this
theorem be_four (x : Int) (w : World) : Calls Try.prog 18 #[.int .i64 x, .int .i64 4] w fun e w' => e = .returned (.string (be4 x)) ∧ Below w.heap.size w w' := by
  have := be_any x 4 w (by decide)
  rw [beL_four] at this
  exact this

end Go.Proofs.Ytbffnicfibfceaa

/- Which data may be for a type: plain functions on bytes, with no word of the program. -/
namespace Go.Proofs.Ytbffnicfibfceaa.Pl

theorem not_long {l : List UInt8} (h : 255 < l.length) : isName l = false := by unfold isName nm; rw [if_pos h]; rfl

/-- The place of the byte 0 that ends the first name; the first number: how many bytes of a label are still to come. -/
def zr : Nat → List UInt8 → Option Nat
  | _, [] => none
  | 0, c :: r => if c.toNat = 0 then some 0 else (zr c.toNat r).map (· + 1)
  | k + 1, _ :: r => (zr k r).map (· + 1)

theorem zr_drop (k : Nat) (l : List UInt8) : zr k l = (zr 0 (l.drop k)).map (· + k) := by
  induction l generalizing k with
  | nil => simp [zr]
  | cons c r ih =>
    cases k with
    | zero => simp
    | succ k =>
      rw [zr, ih, List.drop_succ_cons, Option.map_map, show ((fun x => x + 1) ∘ fun x => x + k) = fun x => x + (k + 1) from rfl]

/-- The walk over a first name stands at p. -/
def ZAt (l : List UInt8) (p : Nat) : Prop := zr 0 l = (zr 0 (l.drop p)).map (· + p)

theorem zat_start (l : List UInt8) : ZAt l 0 := by simp [ZAt]
theorem zat_step {l : List UInt8} {p : Nat} (h : ZAt l p) (hp : p < l.length) (h0 : l[p].toNat ≠ 0) : ZAt l (p + (1 + l[p].toNat)) := by
  unfold ZAt at *
  rw [h, drop_at l p hp, zr, if_neg h0, zr_drop, List.drop_drop, Option.map_map, Option.map_map]
  rw [show p + (1 + l[p].toNat) = p + 1 + l[p].toNat from by omega]
  congr 1
  funext x
  simp [Function.comp]
  omega
theorem zat_past {l : List UInt8} {p : Nat} (h : ZAt l p) (hp : l.length ≤ p) : zr 0 l = none := by
  unfold ZAt at h
  rw [h, List.drop_of_length_le hp]; rfl
theorem zat_end {l : List UInt8} {p : Nat} (h : ZAt l p) (hp : p < l.length) (h0 : l[p].toNat = 0) : zr 0 l = some p := by
  unfold ZAt at h
  rw [h, drop_at l p hp, zr, if_pos h0]; simp
theorem zat_ge {l : List UInt8} {p q : Nat} (h : ZAt l p) (hq : zr 0 l = some q) : p ≤ q := by
  unfold ZAt at h
  rw [h] at hq
  cases hz : zr 0 (l.drop p) with
  | none => rw [hz] at hq; simp at hq
  | some x => rw [hz] at hq; simp at hq; omega
theorem zr_lt (k : Nat) (l : List UInt8) (q : Nat) (h : zr k l = some q) : q < l.length := by
  induction l generalizing k q with
  | nil => simp [zr] at h
  | cons c r ih =>
    cases k with
    | zero =>
      rw [zr] at h
      split at h
      · simp at h; simp; omega
      · cases hz : zr c.toNat r with
        | none => rw [hz] at h; simp at h
        | some x => rw [hz] at h; simp at h; have := ih _ _ hz; simp; omega
    | succ k =>
      rw [zr] at h
      cases hz : zr k r with
      | none => rw [hz] at h; simp at h
      | some x => rw [hz] at h; simp at h; have := ih _ _ hz; simp; omega

/-- How long the name is with which bytes begin. -/
def cutL (l : List UInt8) : Option Nat :=
  match zr 0 l with
  | none => none
  | some p => if isName (l.take (p + 1)) = true then some (p + 1) else none

theorem cut_none {l : List UInt8} (h : zr 0 l = none) : cutL l = none := by unfold cutL; rw [h]
theorem cut_at {l : List UInt8} {p : Nat} (h : zr 0 l = some p) : cutL l = if isName (l.take (p + 1)) = true then some (p + 1) else none := by unfold cutL; rw [h]
theorem cut_far {l : List UInt8} {p : Nat} (h : ZAt l p) (hp : 255 ≤ p) : cutL l = none := by
  cases hz : zr 0 l with
  | none => exact cut_none hz
  | some q =>
    have h1 := zat_ge h hz
    have h2 := zr_lt _ _ _ hz
    rw [cut_at hz, if_neg (by rw [not_long (by rw [List.length_take]; omega)]; simp)]
theorem cut_some {l : List UInt8} {e : Nat} (h : cutL l = some e) : 1 ≤ e ∧ e ≤ l.length ∧ e ≤ 255 ∧ isName (l.take e) = true := by
  cases hz : zr 0 l with
  | none => rw [cut_none hz] at h; simp at h
  | some q =>
    have h2 := zr_lt _ _ _ hz
    rw [cut_at hz] at h
    split at h
    · rename_i hn
      simp at h
      subst h
      have := (name_some hn).1
      rw [List.length_take] at this
      exact ⟨by omega, by omega, by omega, hn⟩
    · simp at h

theorem zr_name (k : Nat) (n r : List UInt8) (h : (nmS k n).isSome = true) : n ≠ [] ∧ zr k (n ++ r) = some (n.length - 1) := by
  induction n generalizing k with
  | nil => simp [nmS] at h
  | cons c t ih =>
    refine ⟨by simp, ?_⟩
    cases k with
    | zero =>
      rw [nmS] at h
      rw [List.cons_append, zr]
      split at h
      · rename_i h0
        split at h
        · rename_i h1
          rw [if_pos h0]; simp [h1]
        · simp at h
      · rename_i h0
        rw [if_neg h0]
        split at h
        · simp at h
        · have h2 := ih c.toNat (by simpa using h)
          have : t.length ≠ 0 := fun e => h2.1 (List.eq_nil_of_length_eq_zero e)
          rw [h2.2]
          simp; omega
    | succ k =>
      rw [nmS] at h
      rw [List.cons_append, zr]
      have h2 := ih k h
      have : t.length ≠ 0 := fun e => h2.1 (List.eq_nil_of_length_eq_zero e)
      rw [h2.2]
      simp; omega

theorem name_ne {n : List UInt8} (h : isName n = true) : 1 ≤ n.length := by
  have := (zr_name 0 n [] (name_some h).2).1
  cases n with
  | nil => exact absurd rfl this
  | cons => simp
theorem cut_name {n : List UInt8} (h : isName n = true) (r : List UInt8) : cutL (n ++ r) = some n.length := by
  have h1 := zr_name 0 n r (name_some h).2
  have h2 := name_ne h
  rw [cut_at h1.2, show n.length - 1 + 1 = n.length from by omega, List.take_left, if_pos h]

/-- The lengths of the two names of TypeSoa's data. -/
def soaL (l : List UInt8) : Option (Nat × Nat) :=
  match cutL l with
  | none => none
  | some a =>
    match cutL (l.drop a) with
    | none => none
    | some b => if l.length = a + b + 20 then some (a, b) else none

theorem soa_cut {l : List UInt8} (h : cutL l = none) : soaL l = none := by unfold soaL; rw [h]
theorem soa_cut2 {l : List UInt8} {a : Nat} (h : cutL l = some a) (h2 : cutL (l.drop a) = none) : soaL l = none := by unfold soaL; rw [h]; simp only [h2]
theorem soa_at {l : List UInt8} {a b : Nat} (h : cutL l = some a) (h2 : cutL (l.drop a) = some b) : soaL l = if l.length = a + b + 20 then some (a, b) else none := by unfold soaL; rw [h]; simp only [h2]
theorem soa_some {l : List UInt8} {a b : Nat} (h : soaL l = some (a, b)) : cutL l = some a ∧ cutL (l.drop a) = some b ∧ l.length = a + b + 20 := by
  cases h1 : cutL l with
  | none => rw [soa_cut h1] at h; simp at h
  | some a' =>
    cases h2 : cutL (l.drop a') with
    | none => rw [soa_cut2 h1 h2] at h; simp at h
    | some b' =>
      rw [soa_at h1 h2] at h
      split at h
      · simp at h
        obtain ⟨rfl, rfl⟩ := h
        exact ⟨rfl, h2, by assumption⟩
      · simp at h
theorem soa_size {l : List UInt8} (h : (soaL l).isSome = true) : l.length ≤ 530 := by
  obtain ⟨⟨a, b⟩, hs⟩ := Option.isSome_iff_exists.1 h
  obtain ⟨h1, h2, h3⟩ := soa_some hs
  have := cut_some h1
  have := cut_some h2
  omega
theorem soa_names {n m t : List UInt8} (hn : isName n = true) (hm : isName m = true) : soaL (n ++ (m ++ t)) = if t.length = 20 then some (n.length, m.length) else none := by
  have h1 := cut_name hn (m ++ t)
  have h2 : cutL ((n ++ (m ++ t)).drop n.length) = some m.length := by rw [List.drop_left]; exact cut_name hm t
  rw [soa_at h1 h2]
  simp only [List.length_append]
  by_cases h : t.length = 20
  · rw [if_pos h, if_pos (by omega)]
  · rw [if_neg h, if_neg (by omega)]

/-- Do texts stand there, one behind the other, to the end? The first number: how many bytes of a text are still to come. -/
def tq : Nat → List UInt8 → Bool
  | 0, [] => true
  | _ + 1, [] => false
  | 0, c :: r => tq c.toNat r
  | k + 1, _ :: r => tq k r
theorem tq_drop (k : Nat) (l : List UInt8) : tq k l = if k ≤ l.length then tq 0 (l.drop k) else false := by
  induction l generalizing k with
  | nil =>
    cases k with
    | zero => simp
    | succ k => simp [tq]
  | cons c r ih =>
    cases k with
    | zero => simp
    | succ k => rw [tq, ih]; simp
/-- The walk over texts stands at p. -/
def QAt (l : List UInt8) (p : Nat) : Prop := tq 0 l = if p ≤ l.length then tq 0 (l.drop p) else false
theorem qat_start (l : List UInt8) : QAt l 0 := by simp [QAt]
theorem qat_step {l : List UInt8} {p : Nat} (h : QAt l p) (hp : p < l.length) : QAt l (p + (1 + l[p].toNat)) := by
  unfold QAt at *
  rw [h, if_pos (by omega), drop_at l p hp, tq, tq_drop, List.drop_drop, List.length_drop]
  rw [show p + (1 + l[p].toNat) = p + 1 + l[p].toNat from by omega]
  by_cases e : p + 1 + l[p].toNat ≤ l.length
  · rw [if_pos e, if_pos (by omega)]
  · rw [if_neg e, if_neg (by omega)]
theorem qat_end {l : List UInt8} {p : Nat} (h : QAt l p) (hp : l.length ≤ p) : tq 0 l = decide (p = l.length) := by
  unfold QAt at h
  rw [h]
  by_cases e : p = l.length
  · subst e
    simp [tq]
  · rw [if_neg (by omega)]
    simp [e]

def texts (l : List UInt8) : Bool := decide (0 < l.length) && tq 0 l

/-- May data be for a type? -/
def mayD (t : Int) (l : List UInt8) : Bool :=
  if t = 1 then decide (l.length = 4)
  else if t = 28 then decide (l.length = 16)
  else if t = 2 ∨ t = 5 ∨ t = 12 then isName l
  else if t = 15 then decide (2 < l.length) && isName (l.drop 2)
  else if t = 6 then (soaL l).isSome
  else if t = 16 then decide (l.length ≤ 65535) && texts l
  else decide (1 ≤ t) && decide (t ≤ 65535) && decide (l.length ≤ 65535)

theorem may_1 (l : List UInt8) : mayD 1 l = decide (l.length = 4) := rfl
theorem may_28 (l : List UInt8) : mayD 28 l = decide (l.length = 16) := rfl
theorem may_n {t : Int} (h : t = 2 ∨ t = 5 ∨ t = 12) (l : List UInt8) : mayD t l = isName l := by rcases h with rfl | rfl | rfl <;> rfl
theorem may_15 (l : List UInt8) : mayD 15 l = (decide (2 < l.length) && isName (l.drop 2)) := rfl
theorem may_6 (l : List UInt8) : mayD 6 l = (soaL l).isSome := rfl
theorem may_16 (l : List UInt8) : mayD 16 l = (decide (l.length ≤ 65535) && texts l) := rfl
/-- A type that the document does not name. -/
def Other (t : Int) : Prop := t ≠ 1 ∧ t ≠ 28 ∧ t ≠ 2 ∧ t ≠ 5 ∧ t ≠ 12 ∧ t ≠ 15 ∧ t ≠ 6 ∧ t ≠ 16
theorem may_o {t : Int} (h : Other t) (l : List UInt8) : mayD t l = (decide (1 ≤ t) && decide (t ≤ 65535) && decide (l.length ≤ 65535)) := by
  obtain ⟨h1, h2, h3, h4, h5, h6, h7, h8⟩ := h
  unfold mayD
  rw [if_neg h1, if_neg h2, if_neg (by omega), if_neg h6, if_neg h7, if_neg h8]
theorem kinds (t : Int) : t = 1 ∨ t = 28 ∨ (t = 2 ∨ t = 5 ∨ t = 12) ∨ t = 15 ∨ t = 6 ∨ t = 16 ∨ Other t := by unfold Other; omega
/-- Data of more than 65,535 bytes may not be. -/
theorem may_long (t : Int) {l : List UInt8} (h : 65535 < l.length) : mayD t l = false := by
  rcases kinds t with rfl | rfl | h1 | rfl | rfl | rfl | h1
  · rw [may_1]; simp; omega
  · rw [may_28]; simp; omega
  · rw [may_n h1]; exact not_long (by omega)
  · rw [may_15, not_long (by rw [List.length_drop]; omega)]; simp
  · rw [may_6]
    cases hs : (soaL l).isSome with
    | false => rfl
    | true => have := soa_size hs; omega
  · rw [may_16]; simp; omega
  · rw [may_o h1]; simp; omega
theorem may_none {t : Int} (h : t < 1 ∨ 65535 < t) (l : List UInt8) : mayD t l = false := by
  rw [may_o (by unfold Other; omega)]; simp; omega

end Go.Proofs.Ytbffnicfibfceaa.Pl

/- What within, mayTexts, cutName, soaNames and May of package rdata give, for every argument. -/
namespace Go.Proofs.Ytbffnicfibfceaa
open Go.RowKit
open Pl

theorem ext_list (s : ByteArray) (i j : Nat) : (s.extract i j).data.toList = (s.data.toList.drop i).take (j - i) := by simp [List.extract_eq_take_drop]
theorem ext_to (s : ByteArray) (i : Nat) : (s.extract 0 i).data.toList = s.data.toList.take i := by rw [ext_list]; simp
theorem ext_from (s : ByteArray) (i : Nat) : (s.extract i s.size).data.toList = s.data.toList.drop i := by
  rw [ext_list, List.take_of_length_le (by rw [List.length_drop, data_len]; exact Nat.le_refl _)]
theorem cut_to (s : ByteArray) (k : Nat) (c : Int) (hc : c = (k : Int)) (h : k ≤ s.size) (u : World) : (Instr.slice 9 (.string s) none (some (.int .i64 c)) none).run Try.prog u = .ok (.string (s.extract 0 k)) u := by
  subst hc
  have := run_slice_string_h (P := Try.prog) (w := u) (t := 9) (s := s) Try.underlying9 .i64 (k : Int) (by omega) (by omega)
  rw [this]; rfl
theorem cut_rest (s : ByteArray) (k : Nat) (c : Int) (hc : c = (k : Int)) (h : k ≤ s.size) (u : World) : (Instr.slice 9 (.string s) (some (.int .i64 c)) none none).run Try.prog u = .ok (.string (s.extract k s.size)) u := by
  subst hc
  exact cut_from s k h u
theorem drew_same {w w' : World} (h : w' = w) : ∃ m, w' = w.drewN m := ⟨0, h⟩
theorem drew_next {a b c : World} (h : ∃ m, b = a.drewN m) (k : ∃ m, c = b.drewN m) : ∃ m, c = a.drewN m := by
  obtain ⟨m, rfl⟩ := h
  obtain ⟨n, rfl⟩ := k
  exact ⟨m + n, World.drewN_drewN _ _ _⟩

/-- Is a number from 0 to top? -/
def inB (top x : Int) : Bool := decide (0 ≤ x ∧ x ≤ top)
/-- Are all numbers from 0 to top? -/
def allIn (top : Int) (zs : List Int) : Bool := zs.all fun z => decide (0 ≤ z ∧ z ≤ top)

theorem in_yes {top : Int} {zs : List Int} (h : ∀ i, i < zs.length → 0 ≤ zs.getD i 0 ∧ zs.getD i 0 ≤ top) : allIn top zs = true := by
  unfold allIn
  rw [List.all_eq_true]
  intro z hz
  obtain ⟨i, hi, rfl⟩ := List.mem_iff_getElem.1 hz
  have := h i hi
  rw [List.getD_eq_getElem?_getD, List.getElem?_eq_getElem hi] at this
  simpa using this
theorem in_no {top : Int} {zs : List Int} {i : Nat} (hi : i < zs.length) (h : ¬ (0 ≤ zs.getD i 0 ∧ zs.getD i 0 ≤ top)) : allIn top zs = false := by
  unfold allIn
  rw [List.all_eq_false]
  refine ⟨zs[i], List.getElem_mem _, ?_⟩
  rw [List.getD_eq_getElem?_getD, List.getElem?_eq_getElem hi] at h
  simpa using h


theorem mayTexts_any (s : ByteArray) (w : World) (hs : s.size ≤ 65535) :
    Calls Try.prog 66 #[.string s] w fun e w' => e = .returned (.bool (texts s.data.toList)) ∧ w' = w := by
  have hl := data_len s
  go_enter Try.func66, Try.ntmps66
  go_wp2
  go_loop [3] (fun i => ∃ p : Nat, p ≤ s.size + 256 ∧ i = .int .i64 (p : Int) ∧ Hid (QAt s.data.toList p) ∧ (p = 0 → Hid (p = 0))) (fun i => s.size + 256 - (intOf i).toNat)
  case atStart => exact ⟨0, Nat.zero_le _, rfl, qat_start _, fun h => h⟩
  case round =>
    obtain ⟨p, hp, rfl, HQ, _⟩ := hrel
    by_cases hlt : p < s.size
    · have hb := UInt8.toNat_lt (s[p])
      have HE : Hid (QAt s.data.toList (p + (1 + s[p].toNat))) := qat_step HQ.out (by rw [hl]; exact hlt)
      go_wp2
      go_round
      case rel => exact ⟨p + (1 + s[p].toNat), by omega, by go_num, HE, fun h => h⟩
      case measure => simp [intOf]; omega
    · have HE : Hid (tq 0 s.data.toList = decide (p = s.data.toList.length)) := qat_end HQ.out (by omega)
      by_cases h0 : (0 : Int) < (p : Int)
      · have HT : Hid (texts s.data.toList = ((p : Int) == (s.size : Int))) := by
          unfold Hid texts
          rw [HE.out, hl, Bool.eq_iff_iff]; simp; omega
        go_wp2
        go_ret
        exact ⟨ret_bool HT.out.symm, rfl⟩
      · have HT : Hid (texts s.data.toList = false) := by
          unfold Hid texts; simp; omega
        have h0' : decide ((0 : Int) < (p : Int)) = false := by simpa using h0
        go_wp2
        go_ret
        exact ⟨ret_bool HT.out.symm, rfl⟩

/-- What cutName gives. -/
def cutT (s : ByteArray) : Option Nat → Value
  | none => .tuple #[.string ⟨#[]⟩, .string ⟨#[]⟩, .bool false]
  | some e => .tuple #[.string (s.extract 0 e), .string (s.extract e s.size), .bool true]
theorem ret_cut {s : ByteArray} {o : Option Nat} {v : Value} (h : cutL s.data.toList = o) (hv : v = cutT s o) : Ending.returned v = .returned (cutT s (cutL s.data.toList)) := by rw [h, hv]

set_option maxRecDepth 20000 in
theorem cutName_any (s : ByteArray) (w : World) (hs : s.size ≤ maxLen) :
    Calls Try.prog 69 #[.string s] w fun e w' => e = .returned (cutT s (cutL s.data.toList)) ∧ ∃ m, w' = w.drewN m := by
  have HM : Hid (s.size ≤ maxLen) := hs
  unfold maxLen at hs
  have hl := data_len s
  go_enter Try.func69, Try.ntmps69
  go_wp2
  go_loop [5] (fun i => ∃ p : Nat, p ≤ 600 ∧ i = .int .i64 (p : Int) ∧ Hid (ZAt s.data.toList p)) (fun i => 600 - (intOf i).toNat)
  case atStart => exact ⟨0, Nat.zero_le _, rfl, zat_start _⟩
  case round =>
    obtain ⟨p, hp, rfl, HA⟩ := hrel
    by_cases hlt : p < s.size
    · have hlt' : p < s.data.toList.length := by omega
      have hend : decide ((s.size : Int) < (p : Int) + 1) = false := by simp; omega
      have hcut := cut_to s (p + 1) ((p : Int) + 1) (by omega) (by omega)
      by_cases hfar : p < 255
      · have hb := UInt8.toNat_lt (s[p])
        have hfar' : (p : Int) < 255 := by omega
        by_cases h0 : s[p].toNat = 0
        · have HZ : Hid (cutL s.data.toList = if isName (s.data.toList.take (p + 1)) = true then some (p + 1) else none) := cut_at (zat_end HA.out hlt' h0)
          have h0' : ((s[p].toNat : Int) != 0) = false := by simp [h0]
          clear h0
          have hcut2 := cut_rest s (p + 1) ((p : Int) + 1) (by omega) (by omega)
          cases hn : isName (s.extract 0 (p + 1)).data.toList with
          | true =>
            have HR : Hid (cutL s.data.toList = some (p + 1)) := by unfold Hid; rw [HZ.out, if_pos (by rw [← ext_to]; exact hn)]
            have w4 : IntKind.i64.wrap ((p : Int) + 1) = (p : Int) + 1 := by rw [IntKind.wrap_i64]; omega
            go_wp2_with (go_at_call 64; go_must (refine (may_as _ true _ (by unfold maxLen; simp; omega) hn).mono ?_); rintro e w' ⟨rfl, hw⟩; obtain rfl := hw.symm)
            go_quiet (fail)
            go_wp2
            go_ret3
            exact ⟨ret_cut HR.out rfl, _, rfl⟩
          | false =>
            have HR : Hid (cutL s.data.toList = none) := by unfold Hid; rw [HZ.out, if_neg (by rw [← ext_to, hn]; simp)]
            go_wp2_with (go_at_call 64; go_must (refine (may_as _ false _ (by unfold maxLen; simp; omega) hn).mono ?_); rintro e w' ⟨rfl, hw⟩; obtain rfl := hw.symm)
            go_ret3
            exact ⟨ret_cut HR.out rfl, 0, rfl⟩
        · have HE : Hid (ZAt s.data.toList (p + (1 + s[p].toNat))) := zat_step HA.out hlt' h0
          have h0' : ((s[p].toNat : Int) != 0) = true := by simpa using h0
          go_wp2
          go_round
          case rel => exact ⟨p + (1 + s[p].toNat), by omega, by go_num, HE⟩
          case measure => simp [intOf]; omega
      · have hfar' : decide ((p : Int) < 255) = false := by simp; omega
        have HR : Hid (cutL s.data.toList = none) := cut_far HA.out (by omega)
        have hn : isName (s.extract 0 (p + 1)).data.toList = false := by rw [ext_to]; exact not_long (by rw [List.length_take]; omega)
        go_wp2_with (go_at_call 64; go_must (refine (may_as _ false _ (by unfold maxLen; simp; omega) hn).mono ?_); rintro e w' ⟨rfl, hw⟩; obtain rfl := hw.symm)
        go_ret3
        exact ⟨ret_cut HR.out rfl, 0, rfl⟩
    · have HR : Hid (cutL s.data.toList = none) := cut_none (zat_past HA.out (by omega))
      have hend : (s.size : Int) < (p : Int) + 1 := by omega
      go_wp2
      go_ret3
      exact ⟨ret_cut HR.out rfl, 0, rfl⟩

/-- What soaNames gives. -/
def soaT (s : ByteArray) : Option (Nat × Nat) → Value
  | none => .tuple #[.string ⟨#[]⟩, .string ⟨#[]⟩, .bool false]
  | some (a, b) => .tuple #[.string (s.extract 0 a), .string ((s.extract a s.size).extract 0 b), .bool true]
theorem ret_soa {s : ByteArray} {o : Option (Nat × Nat)} {v : Value} (h : soaL s.data.toList = o) (hv : v = soaT s o) : Ending.returned v = .returned (soaT s (soaL s.data.toList)) := by rw [h, hv]
theorem cutName_as (s : ByteArray) (o : Option Nat) (w : World) (hs : s.size ≤ maxLen) (h : cutL s.data.toList = o) :
    Calls Try.prog 69 #[.string s] w fun e w' => e = .returned (cutT s o) ∧ ∃ m, w' = w.drewN m := by rw [← h]; exact cutName_any s w hs

theorem soaNames_any (s : ByteArray) (w : World) (hs : s.size ≤ maxLen) :
    Calls Try.prog 65 #[.string s] w fun e w' => e = .returned (soaT s (soaL s.data.toList)) ∧ ∃ m, w' = w.drewN m := by
  have hl := data_len s
  cases hc : cutL s.data.toList with
  | none =>
    go_enter Try.func65, Try.ntmps65
    go_wp2_with (go_at_call 69; go_must (refine (cutName_as s none _ hs hc).mono ?_); rintro e w1 ⟨rfl, b1⟩; unfold cutT)
    go_ret3
    exact ⟨ret_soa (soa_cut hc) rfl, b1⟩
  | some a =>
    have hca := cut_some hc
    have hr : (s.extract a s.size).size = s.size - a := by simp
    have hrs : (s.extract a s.size).size ≤ maxLen := by unfold maxLen at hs ⊢; omega
    cases hc2 : cutL (s.extract a s.size).data.toList with
    | none =>
      go_enter Try.func65, Try.ntmps65
      go_wp2_with (first
        | (go_at_call_of 69 (#[Value.string s]); go_must (refine (cutName_as s (some a) _ hs hc).mono ?_); rintro e w1 ⟨rfl, b1⟩; unfold cutT)
        | (go_at_call 69; go_must (refine (cutName_as (s.extract a s.size) none _ hrs hc2).mono ?_); rintro e w2 ⟨rfl, b2⟩; unfold cutT))
      go_ret3
      exact ⟨ret_soa (soa_cut2 hc (by rw [← ext_from]; exact hc2)) rfl, drew_next b1 b2⟩
    | some b =>
      have hcb := cut_some hc2
      rw [data_len] at hcb
      have HA : Hid (soaL s.data.toList = if s.data.toList.length = a + b + 20 then some (a, b) else none) := soa_at hc (by rw [← ext_from]; exact hc2)
      by_cases h20 : s.size = a + b + 20
      · have HR : Hid (soaL s.data.toList = some (a, b)) := by unfold Hid; rw [HA.out, if_pos (by omega)]
        have ht : (((s.size - a - b : Nat) : Int) != 20) = false := by simp; omega
        clear h20 hr
        go_enter Try.func65, Try.ntmps65
        go_wp2_with (first
          | (go_at_call_of 69 (#[Value.string s]); go_must (refine (cutName_as s (some a) _ hs hc).mono ?_); rintro e w1 ⟨rfl, b1⟩; unfold cutT)
          | (go_at_call 69; go_must (refine (cutName_as (s.extract a s.size) (some b) _ hrs hc2).mono ?_); rintro e w2 ⟨rfl, b2⟩; unfold cutT))
        go_ret3
        exact ⟨ret_soa HR.out rfl, drew_next b1 b2⟩
      · have HR : Hid (soaL s.data.toList = none) := by unfold Hid; rw [HA.out, if_neg (by omega)]
        have ht : (((s.size - a - b : Nat) : Int) != 20) = true := by simp; omega
        clear h20 hr
        go_enter Try.func65, Try.ntmps65
        go_wp2_with (first
          | (go_at_call_of 69 (#[Value.string s]); go_must (refine (cutName_as s (some a) _ hs hc).mono ?_); rintro e w1 ⟨rfl, b1⟩; unfold cutT)
          | (go_at_call 69; go_must (refine (cutName_as (s.extract a s.size) (some b) _ hrs hc2).mono ?_); rintro e w2 ⟨rfl, b2⟩; unfold cutT))
        go_ret3
        exact ⟨ret_soa HR.out rfl, drew_next b1 b2⟩

end Go.Proofs.Ytbffnicfibfceaa
