/- What the document's Num and Be give. -/
import Derived.Test.YtdogjbblnjjaaabXP1
import Derived.LoopN
import Derived.WalkSpells
import Derived.Laws.MakeOwn
import Derived.Lib.AppendStr
namespace Go.Proofs.Ytdogjbblnjjaaab
open Go.RowKit

/-- The number of n bytes from k on. -/
def val (s : ByteArray) (k : Nat) : Nat → Int
  | 0 => 0
  | i + 1 => val s k i * 256 + ((s.data.toList.getD (k + i) 0).toNat : Int)
theorem val_lt (s : ByteArray) (k : Nat) : ∀ i, 0 ≤ val s k i ∧ val s k i < 256 ^ i := by
  intro i
  induction i with
  | zero => simp [val]
  | succ i ih =>
    have := (s.data.toList.getD (k + i) 0).toNat_lt
    unfold val
    rw [Int.pow_succ]
    omega
theorem val_getD (s : ByteArray) (k : Nat) (h : k < s.size) : s.data.toList.getD k 0 = s[k] := by
  rw [List.getD_eq_getElem?_getD, List.getElem?_eq_getElem (by rw [data_len]; exact h)]
  rfl
theorem val_two (s : ByteArray) (k : Nat) (h : k + 2 ≤ s.size) : val s k 2 = two s[k] s[k + 1] := by
  unfold val val val two
  rw [val_getD s _ (by omega), val_getD s _ (by omega)]
  simp only [Nat.add_zero]
  omega
theorem val_four (s : ByteArray) (k : Nat) (h : k + 4 ≤ s.size) : val s k 4 = four s[k] s[k + 1] s[k + 2] s[k + 3] := by
  unfold val val val val val four two
  rw [val_getD s _ (by omega), val_getD s _ (by omega), val_getD s _ (by omega), val_getD s _ (by omega)]
  simp only [Nat.add_zero]
  omega

theorem wraps_i64 (n : Int) (h₀ : 0 ≤ n) (h₁ : n < 2 ^ 62) : IntKind.i64.wrap n = n := by rw [IntKind.wrap_i64]; omega



end Go.Proofs.Ytdogjbblnjjaaab

/- What the document's Be gives. -/
namespace Go.Proofs.Ytdogjbblnjjaaab
open Go.RowKit


theorem made_zero (n : Nat) : madeCells #[.int .u8 0] n = ((List.replicate n (0 : UInt8)).map bv).toArray := by
  apply Array.ext
  · simp [madeCells]
  · intro i h1 h2
    simp [madeCells, bv, Nat.mod_one]

/-- The last j bytes of a number of n bytes, zeros ahead of them. -/
def beL (x : Int) (n j : Nat) : List UInt8 := (List.range n).map fun p => if n - j ≤ p then oct x (256 ^ (n - 1 - p)) else 0
theorem beL_len (x : Int) (n j : Nat) : (beL x n j).length = n := by simp [beL]
theorem beL_zero (x : Int) (n : Nat) : beL x n 0 = List.replicate n 0 := by
  apply List.ext_getElem (by simp [beL])
  intro i h1 h2
  have : i < n := by simpa [beL] using h1
  simp only [beL, List.getElem_map, List.getElem_range, List.getElem_replicate]
  rw [if_neg (by omega)]
theorem beL_set (x : Int) (n j q : Nat) (h : q + 1 + j = n) : (beL x n j).set q (oct x (256 ^ j)) = beL x n (j + 1) := by
  apply List.ext_getElem (by simp [beL])
  intro i h1 h2
  have hi : i < n := by simpa [beL] using h2
  rw [List.getElem_set]
  simp only [beL, List.getElem_map, List.getElem_range]
  split
  · rename_i e
    subst e
    rw [if_pos (by omega), show n - 1 - q = j from by omega]
  · by_cases hj : n - j ≤ i
    · rw [if_pos hj, if_pos (by omega)]
    · rw [if_neg hj, if_neg (by omega)]
theorem beL_two (x : Int) : beL x 2 2 = [oct x 256, oct x 1] := by
  simp [beL, List.range_succ]
theorem beL_four (x : Int) : beL x 4 4 = [oct x 16777216, oct x 65536, oct x 256, oct x 1] := by
  simp [beL, List.range_succ]

theorem set_cells (l : List UInt8) (i : Nat) (b : UInt8) : (l.map bv).set i (.int .u8 (b.toNat : Int)) = (l.set i b).map bv := by
  rw [List.map_set]; rfl

theorem wraps_u64 (n : Int) (h₀ : 0 ≤ n) (h₁ : n < 2 ^ 64) : IntKind.u64.wrap n = n := by
  have : IntKind.u64.wrap n = n % 18446744073709551616 := by simp [IntKind.wrap, IntKind.bits, IntKind.signed]
  rw [this]; omega

theorem u64_byte (x u : Int) (j : Nat) (hj : j ≤ 4) (hu : u = x % 18446744073709551616 / 256 ^ j) : bits .and .u64 u 255 = ((oct x (256 ^ j)).toNat : Int) := by
  have hd : j = 0 ∨ j = 1 ∨ j = 2 ∨ j = 3 ∨ j = 4 := by omega
  have h0 : 0 ≤ u ∧ u < 18446744073709551616 := by
    rcases hd with rfl | rfl | rfl | rfl | rfl <;> subst hu <;> omega
  have := bits_mask .u64 64 (by decide) wraps_u64 8 (by decide) u h0.1 (by omega)
  rw [oct_nat]
  have h2 : bits .and .u64 u 255 = u % 256 := by simpa using this
  rw [h2]
  rcases hd with rfl | rfl | rfl | rfl | rfl <;> subst hu <;> omega




end Go.Proofs.Ytdogjbblnjjaaab

/- Which data may be for a type: plain functions on bytes, with no word of the program. -/
namespace Go.Proofs.Ytdogjbblnjjaaab.Pl

theorem not_long {l : List UInt8} (h : 255 < l.length) : isName l = false := by unfold isName nm; rw [if_pos h]; rfl

/-- The place of the byte 0 that ends the first name; the first number: how many bytes of a label are still to come. -/
def zr : Nat → List UInt8 → Option Nat
  | _, [] => none
  | 0, c :: r => if c.toNat = 0 then some 0 else (zr c.toNat r).map (· + 1)
  | k + 1, _ :: r => (zr k r).map (· + 1)

theorem zr_drop (k : Nat) (l : List UInt8) : zr k l = (zr 0 (l.drop k)).map (· + k) := by
  induction l generalizing k with
  | nil => simp [zr]
  | cons c r ih =>
    cases k with
    | zero => simp
    | succ k =>
      rw [zr, ih, List.drop_succ_cons, Option.map_map, show ((fun x => x + 1) ∘ fun x => x + k) = fun x => x + (k + 1) from rfl]

/-- The walk over a first name stands at p. -/
def ZAt (l : List UInt8) (p : Nat) : Prop := zr 0 l = (zr 0 (l.drop p)).map (· + p)

theorem zat_start (l : List UInt8) : ZAt l 0 := by simp [ZAt]
theorem zat_step {l : List UInt8} {p : Nat} (h : ZAt l p) (hp : p < l.length) (h0 : l[p].toNat ≠ 0) : ZAt l (p + (1 + l[p].toNat)) := by
  unfold ZAt at *
  rw [h, drop_at l p hp, zr, if_neg h0, zr_drop, List.drop_drop, Option.map_map, Option.map_map]
  rw [show p + (1 + l[p].toNat) = p + 1 + l[p].toNat from by omega]
  congr 1
  funext x
  simp [Function.comp]
  omega
theorem zat_past {l : List UInt8} {p : Nat} (h : ZAt l p) (hp : l.length ≤ p) : zr 0 l = none := by
  unfold ZAt at h
  rw [h, List.drop_of_length_le hp]; rfl
theorem zat_end {l : List UInt8} {p : Nat} (h : ZAt l p) (hp : p < l.length) (h0 : l[p].toNat = 0) : zr 0 l = some p := by
  unfold ZAt at h
  rw [h, drop_at l p hp, zr, if_pos h0]; simp
theorem zat_ge {l : List UInt8} {p q : Nat} (h : ZAt l p) (hq : zr 0 l = some q) : p ≤ q := by
  unfold ZAt at h
  rw [h] at hq
  cases hz : zr 0 (l.drop p) with
  | none => rw [hz] at hq; simp at hq
  | some x => rw [hz] at hq; simp at hq; omega
theorem zr_lt (k : Nat) (l : List UInt8) (q : Nat) (h : zr k l = some q) : q < l.length := by
  induction l generalizing k q with
  | nil => simp [zr] at h
  | cons c r ih =>
    cases k with
    | zero =>
      rw [zr] at h
      split at h
      · simp at h; simp; omega
      · cases hz : zr c.toNat r with
        | none => rw [hz] at h; simp at h
        | some x => rw [hz] at h; simp at h; have := ih _ _ hz; simp; omega
    | succ k =>
      rw [zr] at h
      cases hz : zr k r with
      | none => rw [hz] at h; simp at h
      | some x => rw [hz] at h; simp at h; have := ih _ _ hz; simp; omega

/-- How long the name is with which bytes begin. -/
def cutL (l : List UInt8) : Option Nat :=
  match zr 0 l with
  | none => none
  | some p => if isName (l.take (p + 1)) = true then some (p + 1) else none

theorem cut_none {l : List UInt8} (h : zr 0 l = none) : cutL l = none := by unfold cutL; rw [h]
theorem cut_at {l : List UInt8} {p : Nat} (h : zr 0 l = some p) : cutL l = if isName (l.take (p + 1)) = true then some (p + 1) else none := by unfold cutL; rw [h]
theorem cut_far {l : List UInt8} {p : Nat} (h : ZAt l p) (hp : 255 ≤ p) : cutL l = none := by
  cases hz : zr 0 l with
  | none => exact cut_none hz
  | some q =>
    have h1 := zat_ge h hz
    have h2 := zr_lt _ _ _ hz
    rw [cut_at hz, if_neg (by rw [not_long (by rw [List.length_take]; omega)]; simp)]
theorem cut_some {l : List UInt8} {e : Nat} (h : cutL l = some e) : 1 ≤ e ∧ e ≤ l.length ∧ e ≤ 255 ∧ isName (l.take e) = true := by
  cases hz : zr 0 l with
  | none => rw [cut_none hz] at h; simp at h
  | some q =>
    have h2 := zr_lt _ _ _ hz
    rw [cut_at hz] at h
    split at h
    · rename_i hn
      simp at h
      subst h
      have := (name_some hn).1
      rw [List.length_take] at this
      exact ⟨by omega, by omega, by omega, hn⟩
    · simp at h

theorem zr_name (k : Nat) (n r : List UInt8) (h : (nmS k n).isSome = true) : n ≠ [] ∧ zr k (n ++ r) = some (n.length - 1) := by
  induction n generalizing k with
  | nil => simp [nmS] at h
  | cons c t ih =>
    refine ⟨by simp, ?_⟩
    cases k with
    | zero =>
      rw [nmS] at h
      rw [List.cons_append, zr]
      split at h
      · rename_i h0
        split at h
        · rename_i h1
          rw [if_pos h0]; simp [h1]
        · simp at h
      · rename_i h0
        rw [if_neg h0]
        split at h
        · simp at h
        · have h2 := ih c.toNat (by simpa using h)
          have : t.length ≠ 0 := fun e => h2.1 (List.eq_nil_of_length_eq_zero e)
          rw [h2.2]
          simp; omega
    | succ k =>
      rw [nmS] at h
      rw [List.cons_append, zr]
      have h2 := ih k h
      have : t.length ≠ 0 := fun e => h2.1 (List.eq_nil_of_length_eq_zero e)
      rw [h2.2]
      simp; omega

theorem name_ne {n : List UInt8} (h : isName n = true) : 1 ≤ n.length := by
  have := (zr_name 0 n [] (name_some h).2).1
  cases n with
  | nil => exact absurd rfl this
  | cons => simp
theorem cut_name {n : List UInt8} (h : isName n = true) (r : List UInt8) : cutL (n ++ r) = some n.length := by
  have h1 := zr_name 0 n r (name_some h).2
  have h2 := name_ne h
  rw [cut_at h1.2, show n.length - 1 + 1 = n.length from by omega, List.take_left, if_pos h]

/-- The lengths of the two names of TypeSoa's data. -/
def soaL (l : List UInt8) : Option (Nat × Nat) :=
  match cutL l with
  | none => none
  | some a =>
    match cutL (l.drop a) with
    | none => none
    | some b => if l.length = a + b + 20 then some (a, b) else none

theorem soa_cut {l : List UInt8} (h : cutL l = none) : soaL l = none := by unfold soaL; rw [h]
theorem soa_cut2 {l : List UInt8} {a : Nat} (h : cutL l = some a) (h2 : cutL (l.drop a) = none) : soaL l = none := by unfold soaL; rw [h]; simp only [h2]
theorem soa_at {l : List UInt8} {a b : Nat} (h : cutL l = some a) (h2 : cutL (l.drop a) = some b) : soaL l = if l.length = a + b + 20 then some (a, b) else none := by unfold soaL; rw [h]; simp only [h2]
theorem soa_some {l : List UInt8} {a b : Nat} (h : soaL l = some (a, b)) : cutL l = some a ∧ cutL (l.drop a) = some b ∧ l.length = a + b + 20 := by
  cases h1 : cutL l with
  | none => rw [soa_cut h1] at h; simp at h
  | some a' =>
    cases h2 : cutL (l.drop a') with
    | none => rw [soa_cut2 h1 h2] at h; simp at h
    | some b' =>
      rw [soa_at h1 h2] at h
      split at h
      · simp at h
        obtain ⟨rfl, rfl⟩ := h
        exact ⟨rfl, h2, by assumption⟩
      · simp at h
theorem soa_size {l : List UInt8} (h : (soaL l).isSome = true) : l.length ≤ 530 := by
  obtain ⟨⟨a, b⟩, hs⟩ := Option.isSome_iff_exists.1 h
  obtain ⟨h1, h2, h3⟩ := soa_some hs
  have := cut_some h1
  have := cut_some h2
  omega
theorem soa_names {n m t : List UInt8} (hn : isName n = true) (hm : isName m = true) : soaL (n ++ (m ++ t)) = if t.length = 20 then some (n.length, m.length) else none := by
  have h1 := cut_name hn (m ++ t)
  have h2 : cutL ((n ++ (m ++ t)).drop n.length) = some m.length := by rw [List.drop_left]; exact cut_name hm t
  rw [soa_at h1 h2]
  simp only [List.length_append]
  by_cases h : t.length = 20
  · rw [if_pos h, if_pos (by omega)]
  · rw [if_neg h, if_neg (by omega)]

/-- Do texts stand there, one behind the other, to the end? The first number: how many bytes of a text are still to come. -/
def tq : Nat → List UInt8 → Bool
  | 0, [] => true
  | _ + 1, [] => false
  | 0, c :: r => tq c.toNat r
  | k + 1, _ :: r => tq k r
theorem tq_drop (k : Nat) (l : List UInt8) : tq k l = if k ≤ l.length then tq 0 (l.drop k) else false := by
  induction l generalizing k with
  | nil =>
    cases k with
    | zero => simp
    | succ k => simp [tq]
  | cons c r ih =>
    cases k with
    | zero => simp
    | succ k => rw [tq, ih]; simp
/-- The walk over texts stands at p. -/
def QAt (l : List UInt8) (p : Nat) : Prop := tq 0 l = if p ≤ l.length then tq 0 (l.drop p) else false
theorem qat_start (l : List UInt8) : QAt l 0 := by simp [QAt]
theorem qat_step {l : List UInt8} {p : Nat} (h : QAt l p) (hp : p < l.length) : QAt l (p + (1 + l[p].toNat)) := by
  unfold QAt at *
  rw [h, if_pos (by omega), drop_at l p hp, tq, tq_drop, List.drop_drop, List.length_drop]
  rw [show p + (1 + l[p].toNat) = p + 1 + l[p].toNat from by omega]
  by_cases e : p + 1 + l[p].toNat ≤ l.length
  · rw [if_pos e, if_pos (by omega)]
  · rw [if_neg e, if_neg (by omega)]
theorem qat_end {l : List UInt8} {p : Nat} (h : QAt l p) (hp : l.length ≤ p) : tq 0 l = decide (p = l.length) := by
  unfold QAt at h
  rw [h]
  by_cases e : p = l.length
  · subst e
    simp [tq]
  · rw [if_neg (by omega)]
    simp [e]

def texts (l : List UInt8) : Bool := decide (0 < l.length) && tq 0 l

/-- May data be for a type? -/
def mayD (t : Int) (l : List UInt8) : Bool :=
  if t = 1 then decide (l.length = 4)
  else if t = 28 then decide (l.length = 16)
  else if t = 2 ∨ t = 5 ∨ t = 12 then isName l
  else if t = 15 then decide (2 < l.length) && isName (l.drop 2)
  else if t = 6 then (soaL l).isSome
  else if t = 16 then decide (l.length ≤ 65535) && texts l
  else decide (1 ≤ t) && decide (t ≤ 65535) && decide (l.length ≤ 65535)

theorem may_1 (l : List UInt8) : mayD 1 l = decide (l.length = 4) := rfl
theorem may_28 (l : List UInt8) : mayD 28 l = decide (l.length = 16) := rfl
theorem may_n {t : Int} (h : t = 2 ∨ t = 5 ∨ t = 12) (l : List UInt8) : mayD t l = isName l := by rcases h with rfl | rfl | rfl <;> rfl
theorem may_15 (l : List UInt8) : mayD 15 l = (decide (2 < l.length) && isName (l.drop 2)) := rfl
theorem may_6 (l : List UInt8) : mayD 6 l = (soaL l).isSome := rfl
theorem may_16 (l : List UInt8) : mayD 16 l = (decide (l.length ≤ 65535) && texts l) := rfl
/-- A type that the document does not name. -/
def Other (t : Int) : Prop := t ≠ 1 ∧ t ≠ 28 ∧ t ≠ 2 ∧ t ≠ 5 ∧ t ≠ 12 ∧ t ≠ 15 ∧ t ≠ 6 ∧ t ≠ 16
theorem may_o {t : Int} (h : Other t) (l : List UInt8) : mayD t l = (decide (1 ≤ t) && decide (t ≤ 65535) && decide (l.length ≤ 65535)) := by
  obtain ⟨h1, h2, h3, h4, h5, h6, h7, h8⟩ := h
  unfold mayD
  rw [if_neg h1, if_neg h2, if_neg (by omega), if_neg h6, if_neg h7, if_neg h8]
theorem kinds (t : Int) : t = 1 ∨ t = 28 ∨ (t = 2 ∨ t = 5 ∨ t = 12) ∨ t = 15 ∨ t = 6 ∨ t = 16 ∨ Other t := by unfold Other; omega
/-- Data of more than 65,535 bytes may not be. -/
theorem may_long (t : Int) {l : List UInt8} (h : 65535 < l.length) : mayD t l = false := by
  rcases kinds t with rfl | rfl | h1 | rfl | rfl | rfl | h1
  · rw [may_1]; simp; omega
  · rw [may_28]; simp; omega
  · rw [may_n h1]; exact not_long (by omega)
  · rw [may_15, not_long (by rw [List.length_drop]; omega)]; simp
  · rw [may_6]
    cases hs : (soaL l).isSome with
    | false => rfl
    | true => have := soa_size hs; omega
  · rw [may_16]; simp; omega
  · rw [may_o h1]; simp; omega
theorem may_none {t : Int} (h : t < 1 ∨ 65535 < t) (l : List UInt8) : mayD t l = false := by
  rw [may_o (by unfold Other; omega)]; simp; omega

end Go.Proofs.Ytdogjbblnjjaaab.Pl

/- What within, mayTexts, cutName, soaNames and May of package rdata give, for every argument. -/
namespace Go.Proofs.Ytdogjbblnjjaaab
open Go.RowKit
open Pl

theorem ext_list (s : ByteArray) (i j : Nat) : (s.extract i j).data.toList = (s.data.toList.drop i).take (j - i) := by simp [List.extract_eq_take_drop]
theorem ext_to (s : ByteArray) (i : Nat) : (s.extract 0 i).data.toList = s.data.toList.take i := by rw [ext_list]; simp
theorem ext_from (s : ByteArray) (i : Nat) : (s.extract i s.size).data.toList = s.data.toList.drop i := by
  rw [ext_list, List.take_of_length_le (by rw [List.length_drop, data_len]; exact Nat.le_refl _)]
theorem cut_to (s : ByteArray) (k : Nat) (c : Int) (hc : c = (k : Int)) (h : k ≤ s.size) (u : World) : (Instr.slice 9 (.string s) none (some (.int .i64 c)) none).run Try.prog u = .ok (.string (s.extract 0 k)) u := by
  subst hc
  have := run_slice_string_h (P := Try.prog) (w := u) (t := 9) (s := s) Try.underlying9 .i64 (k : Int) (by omega) (by omega)
  rw [this]; rfl
theorem cut_rest (s : ByteArray) (k : Nat) (c : Int) (hc : c = (k : Int)) (h : k ≤ s.size) (u : World) : (Instr.slice 9 (.string s) (some (.int .i64 c)) none none).run Try.prog u = .ok (.string (s.extract k s.size)) u := by
  subst hc
  exact cut_from s k h u
theorem drew_same {w w' : World} (h : w' = w) : ∃ m, w' = w.drewN m := ⟨0, h⟩
theorem drew_next {a b c : World} (h : ∃ m, b = a.drewN m) (k : ∃ m, c = b.drewN m) : ∃ m, c = a.drewN m := by
  obtain ⟨m, rfl⟩ := h
  obtain ⟨n, rfl⟩ := k
  exact ⟨m + n, World.drewN_drewN _ _ _⟩

/-- Is a number from 0 to top? -/
def inB (top x : Int) : Bool := decide (0 ≤ x ∧ x ≤ top)
/-- Are all numbers from 0 to top? -/
def allIn (top : Int) (zs : List Int) : Bool := zs.all fun z => decide (0 ≤ z ∧ z ≤ top)

theorem in_yes {top : Int} {zs : List Int} (h : ∀ i, i < zs.length → 0 ≤ zs.getD i 0 ∧ zs.getD i 0 ≤ top) : allIn top zs = true := by
  unfold allIn
  rw [List.all_eq_true]
  intro z hz
  obtain ⟨i, hi, rfl⟩ := List.mem_iff_getElem.1 hz
  have := h i hi
  rw [List.getD_eq_getElem?_getD, List.getElem?_eq_getElem hi] at this
  simpa using this
theorem in_no {top : Int} {zs : List Int} {i : Nat} (hi : i < zs.length) (h : ¬ (0 ≤ zs.getD i 0 ∧ zs.getD i 0 ≤ top)) : allIn top zs = false := by
  unfold allIn
  rw [List.all_eq_false]
  refine ⟨zs[i], List.getElem_mem _, ?_⟩
  rw [List.getD_eq_getElem?_getD, List.getElem?_eq_getElem hi] at h
  simpa using h


theorem mayTexts_any (s : ByteArray) (w : World) (hs : s.size ≤ 65535) :
    Calls Try.prog 66 #[.string s] w fun e w' => e = .returned (.bool (texts s.data.toList)) ∧ w' = w := by
  have hl := data_len s
  go_enter Try.func66, Try.ntmps66
  go_wp2
  go_loop [3] (fun i => ∃ p : Nat, p ≤ s.size + 256 ∧ i = .int .i64 (p : Int) ∧ Hid (QAt s.data.toList p) ∧ (p = 0 → Hid (p = 0))) (fun i => s.size + 256 - (intOf i).toNat)
  case atStart => exact ⟨0, Nat.zero_le _, rfl, qat_start _, fun h => h⟩
  case round =>
    obtain ⟨p, hp, rfl, HQ, _⟩ := hrel
    by_cases hlt : p < s.size
    · have hb := UInt8.toNat_lt (s[p])
      have HE : Hid (QAt s.data.toList (p + (1 + s[p].toNat))) := qat_step HQ.out (by rw [hl]; exact hlt)
      go_wp2
      go_round
      case rel => exact ⟨p + (1 + s[p].toNat), by omega, by go_num, HE, fun h => h⟩
      case measure => simp [intOf]; omega
    · have HE : Hid (tq 0 s.data.toList = decide (p = s.data.toList.length)) := qat_end HQ.out (by omega)
      by_cases h0 : (0 : Int) < (p : Int)
      · have HT : Hid (texts s.data.toList = ((p : Int) == (s.size : Int))) := by
          unfold Hid texts
          rw [HE.out, hl, Bool.eq_iff_iff]; simp; omega
        go_wp2
        go_ret
        exact ⟨ret_bool HT.out.symm, rfl⟩
      · have HT : Hid (texts s.data.toList = false) := by
          unfold Hid texts; simp; omega
        have h0' : decide ((0 : Int) < (p : Int)) = false := by simpa using h0
        go_wp2
        go_ret
        exact ⟨ret_bool HT.out.symm, rfl⟩

/-- What cutName gives. -/
def cutT (s : ByteArray) : Option Nat → Value
  | none => .tuple #[.string ⟨#[]⟩, .string ⟨#[]⟩, .bool false]
  | some e => .tuple #[.string (s.extract 0 e), .string (s.extract e s.size), .bool true]
theorem ret_cut {s : ByteArray} {o : Option Nat} {v : Value} (h : cutL s.data.toList = o) (hv : v = cutT s o) : Ending.returned v = .returned (cutT s (cutL s.data.toList)) := by rw [h, hv]

set_option maxRecDepth 20000 in
theorem cutName_any (s : ByteArray) (w : World) (hs : s.size ≤ maxLen) :
    Calls Try.prog 72 #[.string s] w fun e w' => e = .returned (cutT s (cutL s.data.toList)) ∧ ∃ m, w' = w.drewN m := by
  have HM : Hid (s.size ≤ maxLen) := hs
  unfold maxLen at hs
  have hl := data_len s
  go_enter Try.func72, Try.ntmps72
  go_wp2
  go_loop [5] (fun i => ∃ p : Nat, p ≤ 600 ∧ i = .int .i64 (p : Int) ∧ Hid (ZAt s.data.toList p)) (fun i => 600 - (intOf i).toNat)
  case atStart => exact ⟨0, Nat.zero_le _, rfl, zat_start _⟩
  case round =>
    obtain ⟨p, hp, rfl, HA⟩ := hrel
    by_cases hlt : p < s.size
    · have hlt' : p < s.data.toList.length := by omega
      have hend : decide ((s.size : Int) < (p : Int) + 1) = false := by simp; omega
      have hcut := cut_to s (p + 1) ((p : Int) + 1) (by omega) (by omega)
      by_cases hfar : p < 255
      · have hb := UInt8.toNat_lt (s[p])
        have hfar' : (p : Int) < 255 := by omega
        by_cases h0 : s[p].toNat = 0
        · have HZ : Hid (cutL s.data.toList = if isName (s.data.toList.take (p + 1)) = true then some (p + 1) else none) := cut_at (zat_end HA.out hlt' h0)
          have h0' : ((s[p].toNat : Int) != 0) = false := by simp [h0]
          clear h0
          have hcut2 := cut_rest s (p + 1) ((p : Int) + 1) (by omega) (by omega)
          cases hn : isName (s.extract 0 (p + 1)).data.toList with
          | true =>
            have HR : Hid (cutL s.data.toList = some (p + 1)) := by unfold Hid; rw [HZ.out, if_pos (by rw [← ext_to]; exact hn)]
            have w4 : IntKind.i64.wrap ((p : Int) + 1) = (p : Int) + 1 := by rw [IntKind.wrap_i64]; omega
            go_wp2_with (go_at_call 55; go_must (refine (may_as _ true _ (by unfold maxLen; simp; omega) hn).mono ?_); rintro e w' ⟨rfl, hw⟩; obtain rfl := hw.symm)
            go_quiet (fail)
            go_wp2
            go_ret3
            exact ⟨ret_cut HR.out rfl, _, rfl⟩
          | false =>
            have HR : Hid (cutL s.data.toList = none) := by unfold Hid; rw [HZ.out, if_neg (by rw [← ext_to, hn]; simp)]
            go_wp2_with (go_at_call 55; go_must (refine (may_as _ false _ (by unfold maxLen; simp; omega) hn).mono ?_); rintro e w' ⟨rfl, hw⟩; obtain rfl := hw.symm)
            go_ret3
            exact ⟨ret_cut HR.out rfl, 0, rfl⟩
        · have HE : Hid (ZAt s.data.toList (p + (1 + s[p].toNat))) := zat_step HA.out hlt' h0
          have h0' : ((s[p].toNat : Int) != 0) = true := by simpa using h0
          go_wp2
          go_round
          case rel => exact ⟨p + (1 + s[p].toNat), by omega, by go_num, HE⟩
          case measure => simp [intOf]; omega
      · have hfar' : decide ((p : Int) < 255) = false := by simp; omega
        have HR : Hid (cutL s.data.toList = none) := cut_far HA.out (by omega)
        have hn : isName (s.extract 0 (p + 1)).data.toList = false := by rw [ext_to]; exact not_long (by rw [List.length_take]; omega)
        go_wp2_with (go_at_call 55; go_must (refine (may_as _ false _ (by unfold maxLen; simp; omega) hn).mono ?_); rintro e w' ⟨rfl, hw⟩; obtain rfl := hw.symm)
        go_ret3
        exact ⟨ret_cut HR.out rfl, 0, rfl⟩
    · have HR : Hid (cutL s.data.toList = none) := cut_none (zat_past HA.out (by omega))
      have hend : (s.size : Int) < (p : Int) + 1 := by omega
      go_wp2
      go_ret3
      exact ⟨ret_cut HR.out rfl, 0, rfl⟩

/-- What soaNames gives. -/
def soaT (s : ByteArray) : Option (Nat × Nat) → Value
  | none => .tuple #[.string ⟨#[]⟩, .string ⟨#[]⟩, .bool false]
  | some (a, b) => .tuple #[.string (s.extract 0 a), .string ((s.extract a s.size).extract 0 b), .bool true]
theorem ret_soa {s : ByteArray} {o : Option (Nat × Nat)} {v : Value} (h : soaL s.data.toList = o) (hv : v = soaT s o) : Ending.returned v = .returned (soaT s (soaL s.data.toList)) := by rw [h, hv]
theorem cutName_as (s : ByteArray) (o : Option Nat) (w : World) (hs : s.size ≤ maxLen) (h : cutL s.data.toList = o) :
    Calls Try.prog 72 #[.string s] w fun e w' => e = .returned (cutT s o) ∧ ∃ m, w' = w.drewN m := by rw [← h]; exact cutName_any s w hs

theorem soaNames_any (s : ByteArray) (w : World) (hs : s.size ≤ maxLen) :
    Calls Try.prog 65 #[.string s] w fun e w' => e = .returned (soaT s (soaL s.data.toList)) ∧ ∃ m, w' = w.drewN m := by
  have hl := data_len s
  cases hc : cutL s.data.toList with
  | none =>
    go_enter Try.func65, Try.ntmps65
    go_wp2_with (go_at_call 72; go_must (refine (cutName_as s none _ hs hc).mono ?_); rintro e w1 ⟨rfl, b1⟩; unfold cutT)
    go_ret3
    exact ⟨ret_soa (soa_cut hc) rfl, b1⟩
  | some a =>
    have hca := cut_some hc
    have hr : (s.extract a s.size).size = s.size - a := by simp
    have hrs : (s.extract a s.size).size ≤ maxLen := by unfold maxLen at hs ⊢; omega
    cases hc2 : cutL (s.extract a s.size).data.toList with
    | none =>
      go_enter Try.func65, Try.ntmps65
      go_wp2_with (first
        | (go_at_call_of 72 (#[Value.string s]); go_must (refine (cutName_as s (some a) _ hs hc).mono ?_); rintro e w1 ⟨rfl, b1⟩; unfold cutT)
        | (go_at_call 72; go_must (refine (cutName_as (s.extract a s.size) none _ hrs hc2).mono ?_); rintro e w2 ⟨rfl, b2⟩; unfold cutT))
      go_ret3
      exact ⟨ret_soa (soa_cut2 hc (by rw [← ext_from]; exact hc2)) rfl, drew_next b1 b2⟩
    | some b =>
      have hcb := cut_some hc2
      rw [data_len] at hcb
      have HA : Hid (soaL s.data.toList = if s.data.toList.length = a + b + 20 then some (a, b) else none) := soa_at hc (by rw [← ext_from]; exact hc2)
      by_cases h20 : s.size = a + b + 20
      · have HR : Hid (soaL s.data.toList = some (a, b)) := by unfold Hid; rw [HA.out, if_pos (by omega)]
        have ht : (((s.size - a - b : Nat) : Int) != 20) = false := by simp; omega
        clear h20 hr
        go_enter Try.func65, Try.ntmps65
        go_wp2_with (first
          | (go_at_call_of 72 (#[Value.string s]); go_must (refine (cutName_as s (some a) _ hs hc).mono ?_); rintro e w1 ⟨rfl, b1⟩; unfold cutT)
          | (go_at_call 72; go_must (refine (cutName_as (s.extract a s.size) (some b) _ hrs hc2).mono ?_); rintro e w2 ⟨rfl, b2⟩; unfold cutT))
        go_ret3
        exact ⟨ret_soa HR.out rfl, drew_next b1 b2⟩
      · have HR : Hid (soaL s.data.toList = none) := by unfold Hid; rw [HA.out, if_neg (by omega)]
        have ht : (((s.size - a - b : Nat) : Int) != 20) = true := by simp; omega
        clear h20 hr
        go_enter Try.func65, Try.ntmps65
        go_wp2_with (first
          | (go_at_call_of 72 (#[Value.string s]); go_must (refine (cutName_as s (some a) _ hs hc).mono ?_); rintro e w1 ⟨rfl, b1⟩; unfold cutT)
          | (go_at_call 72; go_must (refine (cutName_as (s.extract a s.size) (some b) _ hrs hc2).mono ?_); rintro e w2 ⟨rfl, b2⟩; unfold cutT))
        go_ret3
        exact ⟨ret_soa HR.out rfl, drew_next b1 b2⟩

end Go.Proofs.Ytdogjbblnjjaaab

/- What May of package rdata gives, for every argument. -/
namespace Go.Proofs.Ytdogjbblnjjaaab
open Go.RowKit
open Pl

theorem soaNames_as (s : ByteArray) (o : Option (Nat × Nat)) (w : World) (hs : s.size ≤ maxLen) (h : soaL s.data.toList = o) :
    Calls Try.prog 65 #[.string s] w fun e w' => e = .returned (soaT s o) ∧ ∃ m, w' = w.drewN m := by rw [← h]; exact soaNames_any s w hs

/-- The tests of a type that the document does not name. -/
theorem other_tests {t : Int} (h : Other t) : (t == 1) = false ∧ (t == 28) = false ∧ (t == 2) = false ∧ (t == 5) = false ∧ (t == 12) = false ∧ (t == 15) = false ∧ (t == 6) = false ∧ (t == 16) = false := by
  obtain ⟨h1, h2, h3, h4, h5, h6, h7, h8⟩ := h
  refine ⟨?_, ?_, ?_, ?_, ?_, ?_, ?_, ?_⟩ <;> (rw [beq_eq_false_iff_ne]; assumption)

set_option maxRecDepth 20000 in
theorem may4_any (t : Int) (s : ByteArray) (w : World) (hs : s.size ≤ maxLen) :
    Calls Try.prog 57 #[.int .i64 t, .string s] w fun e w' => e = .returned (.bool (mayD t s.data.toList)) ∧ ∃ m, w' = w.drewN m := by
  have HM : Hid (s.size ≤ maxLen) := hs
  unfold maxLen at hs
  have hl := data_len s
  rcases kinds t with rfl | rfl | h | rfl | rfl | rfl | h
  · have HR : Hid (mayD 1 s.data.toList = ((s.size : Int) == 4)) := by unfold Hid; rw [may_1, Bool.eq_iff_iff]; simp; omega
    go_enter Try.func57, Try.ntmps57
    go_wp2
    go_ret
    exact ⟨ret_bool HR.out.symm, 0, rfl⟩
  · have HR : Hid (mayD 28 s.data.toList = ((s.size : Int) == 16)) := by unfold Hid; rw [may_28, Bool.eq_iff_iff]; simp; omega
    go_enter Try.func57, Try.ntmps57
    go_wp2
    go_ret
    exact ⟨ret_bool HR.out.symm, 0, rfl⟩
  · have HR := may_n h s.data.toList
    rw [HR]
    rcases h with rfl | rfl | rfl
    all_goals
      go_enter Try.func57, Try.ntmps57
      go_wp2_with (go_at_call 55; go_must (refine (may_any _ _ HM.out).mono ?_); rintro e w' ⟨rfl, hw⟩; obtain rfl := hw.symm)
      go_ret
      exact ⟨rfl, 0, rfl⟩
  · by_cases h2 : 2 < s.size
    · have hcut := cut_rest s 2 2 rfl (by omega)
      obtain ⟨r, hr⟩ : ∃ r, isName (s.extract 2 s.size).data.toList = r := ⟨_, rfl⟩
      have HR : Hid (mayD 15 s.data.toList = r) := by unfold Hid; rw [← hr, may_15, ext_from]; simp; omega
      have h2' : (2 : Int) < (s.size : Int) := by omega
      go_enter Try.func57, Try.ntmps57
      go_wp2_with (go_at_call 55; go_must (refine (may_as _ r _ (by unfold maxLen; simp; omega) hr).mono ?_); rintro e w' ⟨rfl, hw⟩; obtain rfl := hw.symm)
      go_ret
      exact ⟨ret_bool HR.out.symm, 0, rfl⟩
    · have HR : Hid (mayD 15 s.data.toList = false) := by unfold Hid; rw [may_15]; simp; omega
      have h2' : decide ((2 : Int) < (s.size : Int)) = false := by simp; omega
      go_enter Try.func57, Try.ntmps57
      go_wp2
      go_ret
      exact ⟨ret_bool HR.out.symm, 0, rfl⟩
  · rw [may_6]
    cases ho : soaL s.data.toList with
    | none =>
      go_enter Try.func57, Try.ntmps57
      go_wp2_with (go_at_call 65; go_must (refine (soaNames_as s none _ HM.out ho).mono ?_); rintro e w1 ⟨rfl, b1⟩; unfold soaT)
      go_ret
      exact ⟨rfl, b1⟩
    | some ab =>
      obtain ⟨a, b⟩ := ab
      go_enter Try.func57, Try.ntmps57
      go_wp2_with (go_at_call 65; go_must (refine (soaNames_as s (some (a, b)) _ HM.out ho).mono ?_); rintro e w1 ⟨rfl, b1⟩; unfold soaT)
      go_ret
      exact ⟨rfl, b1⟩
  · by_cases h2 : s.size ≤ 65535
    · have HR : Hid (mayD 16 s.data.toList = texts s.data.toList) := by unfold Hid; rw [may_16]; simp; omega
      have h2' : (s.size : Int) ≤ 65535 := by omega
      go_enter Try.func57, Try.ntmps57
      go_wp2_with (go_at_call 66; go_must (refine (mayTexts_any _ _ h2).mono ?_); rintro e w' ⟨rfl, hw⟩; obtain rfl := hw.symm)
      go_ret
      exact ⟨ret_bool HR.out.symm, 0, rfl⟩
    · have HR : Hid (mayD 16 s.data.toList = false) := may_long 16 (by omega)
      have h2' : decide ((s.size : Int) ≤ 65535) = false := by simp; omega
      go_enter Try.func57, Try.ntmps57
      go_wp2
      go_ret
      exact ⟨ret_bool HR.out.symm, 0, rfl⟩
  · have HO : Hid (mayD t s.data.toList = (decide (1 ≤ t) && decide (t ≤ 65535) && decide (s.data.toList.length ≤ 65535))) := may_o h _
    obtain ⟨h1, h2, h3, h4, h5, h6, h7, h8⟩ := other_tests h
    clear h
    by_cases p1 : 1 ≤ t
    · by_cases p2 : t ≤ 65535
      · have HR : Hid (mayD t s.data.toList = decide ((s.size : Int) ≤ 65535)) := by unfold Hid; rw [HO.out, Bool.eq_iff_iff]; simp; omega
        go_enter Try.func57, Try.ntmps57
        go_wp2
        go_ret
        exact ⟨ret_bool HR.out.symm, 0, rfl⟩
      · have HR : Hid (mayD t s.data.toList = false) := may_none (.inr (by omega)) _
        have p2' : decide (t ≤ 65535) = false := by simpa using p2
        go_enter Try.func57, Try.ntmps57
        go_wp2
        go_ret
        exact ⟨ret_bool HR.out.symm, 0, rfl⟩
    · have HR : Hid (mayD t s.data.toList = false) := may_none (.inl (by omega)) _
      have p1' : decide (1 ≤ t) = false := by simpa using p1
      go_enter Try.func57, Try.ntmps57
      go_wp2
      go_ret
      exact ⟨ret_bool HR.out.symm, 0, rfl⟩

end Go.Proofs.Ytdogjbblnjjaaab

/- Names that are compressed, as they are read: plain functions on bytes, with no word of the program. -/
namespace Go.Proofs.Ytdogjbblnjjaaab.Pl

/-- The place that the two bytes at p point to. -/
def ptrAt (l : List UInt8) (p : Nat) : Nat := ((l.getD p 0).toNat * 256 + (l.getD (p + 1) 0).toNat) % 16384

/-- A name is read on from p; g: where its labels began; o: the labels behind; x: the place behind the first pointer. -/
def rn : Nat → List UInt8 → Nat → Nat → List UInt8 → Option Nat → Option (List UInt8 × Nat)
  | 0, _, _, _, _, _ => none
  | f + 1, l, p, g, o, x =>
    if p < l.length then
      if (l.getD p 0).toNat = 0 then (if 255 < o.length + 1 then none else some (o ++ [0], x.getD (p + 1)))
      else if 191 < (l.getD p 0).toNat then
        (if p + 2 ≤ l.length ∧ ptrAt l p < g then rn f l (ptrAt l p) (ptrAt l p) o (some (x.getD (p + 2))) else none)
      else if 63 < (l.getD p 0).toNat ∨ l.length < p + 1 + (l.getD p 0).toNat then none
      else rn f l (p + 1 + (l.getD p 0).toNat) g (o ++ (l.drop p).take (1 + (l.getD p 0).toNat)) x
    else none

/-- The name at p, and the place behind it. -/
def nameOf (l : List UInt8) (p : Nat) : Option (List UInt8 × Nat) := rn (p * 512 + 513) l p p [] none

/-- The reading stands at p, and will give R. -/
def RAt (l : List UInt8) (p g : Nat) (o : List UInt8) (x : Option Nat) (R : Option (List UInt8 × Nat)) : Prop := ∃ f, g * 512 + (512 - o.length) + 1 ≤ f ∧ rn f l p g o x = R

theorem need_lab (g n k f : Nat) (h : g * 512 + (512 - n) ≤ f) (hn : n ≤ 255) : g * 512 + (512 - (n + (1 + k))) + 1 ≤ f := by
  have h1 : 512 - (n + (1 + k)) + 1 ≤ 512 - n := by omega
  have h2 := Nat.add_le_add_left h1 (g * 512)
  rw [← Nat.add_assoc] at h2
  exact Nat.le_trans h2 h
theorem need_ptr (g k n f : Nat) (h : g * 512 + (512 - n) ≤ f) (hk : k < g) : k * 512 + (512 - n) + 1 ≤ f := by
  have h1 : k * 512 + 1 ≤ g * 512 := by
    have := Nat.mul_le_mul_right 512 hk
    rw [Nat.succ_mul] at this
    exact Nat.le_trans (Nat.add_le_add_left (by decide) _) this
  have h2 := Nat.add_le_add_right h1 (512 - n)
  rw [Nat.add_right_comm] at h2
  exact Nat.le_trans h2 h
theorem r_start (l : List UInt8) (p : Nat) : RAt l p p [] none (nameOf l p) := ⟨_, by simp, rfl⟩

theorem getD_get {l : List UInt8} {p : Nat} (h : p < l.length) : l.getD p 0 = l[p] := by rw [List.getD_eq_getElem?_getD, List.getElem?_eq_getElem h]; rfl

theorem lab_len {l : List UInt8} {p k : Nat} (h : p + 1 + k ≤ l.length) : ((l.drop p).take (1 + k)).length = 1 + k := by rw [List.length_take, List.length_drop]; omega

theorem rn_long : ∀ (f : Nat) (l : List UInt8) (p g : Nat) (o : List UInt8) (x : Option Nat), 255 ≤ o.length → rn f l p g o x = none := by
  intro f
  induction f with
  | zero => intros; rfl
  | succ f ih =>
    intro l p g o x h
    rw [rn]
    split
    · split
      · rw [if_pos (by omega)]
      · split
        · split
          · exact ih _ _ _ _ _ h
          · rfl
        · split
          · rfl
          · exact ih _ _ _ _ _ (by rw [List.length_append]; omega)
    · rfl

section
variable {l : List UInt8} {p g : Nat} {o : List UInt8} {x : Option Nat} {R : Option (List UInt8 × Nat)}

theorem RAt.open (h : RAt l p g o x R) : ∃ f, g * 512 + (512 - o.length) ≤ f ∧ rn (f + 1) l p g o x = R := by
  obtain ⟨f, hf, h⟩ := h
  cases f with
  | zero => omega
  | succ f => exact ⟨f, Nat.le_of_succ_le_succ hf, h⟩

theorem r_long (h : RAt l p g o x R) (ho : 255 ≤ o.length) : R = none := by
  obtain ⟨f, _, h⟩ := h
  rw [← h]; exact rn_long _ _ _ _ _ _ ho
theorem r_past (h : RAt l p g o x R) (hp : l.length ≤ p) : R = none := by
  obtain ⟨f, _, h⟩ := h.open
  rw [rn, if_neg (by omega)] at h
  exact h.symm
theorem r_zero (h : RAt l p g o x R) (hp : p < l.length) (h0 : l[p].toNat = 0) (ho : o.length ≤ 254) : R = some (o ++ [0], x.getD (p + 1)) := by
  obtain ⟨f, _, h⟩ := h.open
  rw [rn, if_pos hp, getD_get hp, if_pos h0, if_neg (by omega)] at h
  exact h.symm
theorem r_bad (h : RAt l p g o x R) (hp : p < l.length) (h0 : 63 < l[p].toNat) (h1 : l[p].toNat ≤ 191) : R = none := by
  obtain ⟨f, _, h⟩ := h.open
  rw [rn, if_pos hp, getD_get hp, if_neg (by omega), if_neg (by omega), if_pos (.inl h0)] at h
  exact h.symm
theorem r_cut (h : RAt l p g o x R) (hp : p < l.length) (h0 : l[p].toNat ≠ 0) (h1 : l[p].toNat ≤ 63) (h2 : l.length ≤ p + 1 + l[p].toNat) : R = none := by
  obtain ⟨f, hf, h⟩ := h.open
  rw [rn, if_pos hp, getD_get hp, if_neg h0, if_neg (by omega)] at h
  split at h
  · exact h.symm
  · match f with
    | 0 => rw [rn] at h; exact h.symm
    | f + 1 => rw [rn, if_neg (by omega)] at h; exact h.symm
theorem r_lab (h : RAt l p g o x R) (hp : p < l.length) (h0 : l[p].toNat ≠ 0) (h1 : l[p].toNat ≤ 63) (h2 : p + 1 + l[p].toNat ≤ l.length) (ho : o.length ≤ 255) : RAt l (p + 1 + l[p].toNat) g (o ++ (l.drop p).take (1 + l[p].toNat)) x R := by
  obtain ⟨f, hf, h⟩ := h.open
  rw [rn, if_pos hp, getD_get hp, if_neg h0, if_neg (by omega), if_neg (by omega)] at h
  have hl : (o ++ (l.drop p).take (1 + l[p].toNat)).length = o.length + (1 + l[p].toNat) := by rw [List.length_append, lab_len h2]
  refine ⟨f, ?_, h⟩
  rw [hl]
  exact need_lab g o.length _ f hf ho
theorem r_ptr (h : RAt l p g o x R) (hp : p < l.length) (h0 : 191 < l[p].toNat) (h1 : p + 2 ≤ l.length) (h2 : ptrAt l p < g) : RAt l (ptrAt l p) (ptrAt l p) o (some (x.getD (p + 2))) R := by
  obtain ⟨f, hf, h⟩ := h.open
  rw [rn, if_pos hp, getD_get hp, if_neg (by omega), if_pos h0, if_pos ⟨h1, h2⟩] at h
  refine ⟨f, ?_, h⟩
  exact need_ptr g _ o.length f hf h2
theorem r_ptr_no (h : RAt l p g o x R) (hp : p < l.length) (h0 : 191 < l[p].toNat) (h1 : l.length < p + 2 ∨ g ≤ ptrAt l p) : R = none := by
  obtain ⟨f, hf, h⟩ := h.open
  rw [rn, if_pos hp, getD_get hp, if_neg (by omega), if_pos h0, if_neg (by omega)] at h
  exact h.symm
end

/-- Labels, one behind the other. -/
def Labs (o : List UInt8) : Prop := ∀ r, (nmS 0 (o ++ r)).isSome = (nmS 0 r).isSome

theorem labs_nil : Labs [] := fun _ => rfl
theorem labs_lab {c : UInt8} {r : List UInt8} (h0 : c.toNat ≠ 0) (h1 : c.toNat ≤ 63) (h2 : r.length = c.toNat) : Labs (c :: r) := by
  intro t
  rw [List.cons_append, nmS, if_neg h0, if_neg (by omega), nmS_drop, ← h2, List.drop_left]
  simp
theorem labs_app {a b : List UInt8} (ha : Labs a) (hb : Labs b) : Labs (a ++ b) := fun r => by rw [List.append_assoc, ha, hb]
theorem take_lab {l : List UInt8} {p : Nat} (hp : p < l.length) (k : Nat) : (l.drop p).take (1 + k) = l[p] :: (l.drop (p + 1)).take k := by
  rw [drop_at l p hp, Nat.add_comm 1 k, List.take_succ_cons]
theorem labs_step {l o : List UInt8} {p : Nat} (ho : Labs o) (hp : p < l.length) (h0 : l[p].toNat ≠ 0) (h1 : l[p].toNat ≤ 63) (h2 : p + 1 + l[p].toNat ≤ l.length) : Labs (o ++ (l.drop p).take (1 + l[p].toNat)) := by
  rw [take_lab hp]
  exact labs_app ho (labs_lab h0 h1 (by rw [List.length_take, List.length_drop]; omega))
theorem labs_name {o : List UInt8} (h : Labs o) (hl : o.length ≤ 254) : isName (o ++ [0]) = true := by
  unfold isName nm
  rw [if_neg (by rw [List.length_append]; simp; omega), h [0]]
  rfl

theorem rn_name : ∀ (f : Nat) (l : List UInt8) (p g : Nat) (o : List UInt8) (x : Option Nat) (r : List UInt8) (b : Nat), Labs o → (∀ y, x = some y → y ≤ l.length) → rn f l p g o x = some (r, b) → isName r = true ∧ b ≤ l.length ∧ (x = none → p < b) := by
  intro f
  induction f with
  | zero => intro l p g o x r b _ _ h; simp [rn] at h
  | succ f ih =>
    intro l p g o x r b hl hx h
    rw [rn] at h
    split at h
    · rename_i hp
      rw [getD_get hp] at h
      split at h
      · split at h
        · simp at h
        · rename_i hs
          simp only [Option.some.injEq, Prod.mk.injEq] at h
          obtain ⟨rfl, rfl⟩ := h
          refine ⟨labs_name hl (by omega), ?_, ?_⟩
          · cases x with
            | none => simp; omega
            | some y => simpa using hx y rfl
          · rintro rfl; simp
      · rename_i h0
        split at h
        · split at h
          · rename_i hq
            have := ih _ _ _ _ _ _ _ hl (by
              intro y hy
              simp only [Option.some.injEq] at hy
              cases x with
              | none => simp at hy; omega
              | some z => simp at hy; subst hy; exact hx z rfl) h
            refine ⟨this.1, this.2.1, ?_⟩
            rintro rfl
            simp only [Option.getD_none] at h
            clear this ih hx
            have key : ∀ (f : Nat) (l : List UInt8) (p g : Nat) (o : List UInt8) (y : Nat) (r : List UInt8) (b : Nat), rn f l p g o (some y) = some (r, b) → b = y := by
              intro f
              induction f with
              | zero => intro l p g o y r b h; simp [rn] at h
              | succ f ih =>
                intro l p g o y r b h
                rw [rn] at h
                split at h
                · split at h
                  · split at h
                    · simp at h
                    · simp at h; exact h.2.symm
                  · split at h
                    · split at h
                      · have := ih _ _ _ _ _ _ _ h; simpa using this
                      · simp at h
                    · split at h
                      · simp at h
                      · exact ih _ _ _ _ _ _ _ h
                · simp at h
            have := key _ _ _ _ _ _ _ _ h
            omega
          · simp at h
        · split at h
          · simp at h
          · rename_i h1 h2
            have := ih _ _ _ _ _ _ _ (labs_step hl hp h0 (by omega) (by omega)) hx h
            exact ⟨this.1, this.2.1, fun e => by have := this.2.2 e; omega⟩
    · simp at h

theorem nameOf_some {l : List UInt8} {p : Nat} {r : List UInt8} {b : Nat} (h : nameOf l p = some (r, b)) : isName r = true ∧ b ≤ l.length ∧ p < b := by
  have := rn_name _ _ _ _ _ _ _ _ labs_nil (fun y hy => by simp at hy) h
  exact ⟨this.1, this.2.1, this.2.2 rfl⟩

/-- Names with others ahead of them. -/
def pre (O : List UInt8) : Option (List UInt8 × Nat) → Option (List UInt8 × Nat)
  | none => none
  | some (t, b) => some (O ++ t, b)
/-- So many names, one behind the other, and the place behind them. -/
def namesOf (l : List UInt8) : Nat → Nat → Option (List UInt8 × Nat)
  | p, 0 => some ([], p)
  | p, c + 1 => match nameOf l p with
    | none => none
    | some (r, b) => pre r (namesOf l b c)

/-- Data of one name that ends at q, with h ahead of it; of two names and 20 bytes. -/
def dtN (h : List UInt8) (q : Nat) : Option (List UInt8 × Nat) → Option (List UInt8)
  | none => none
  | some (r, b) => if b = q then some (h ++ r) else none
def dtS2 (l r : List UInt8) (q : Nat) : Option (List UInt8 × Nat) → Option (List UInt8)
  | none => none
  | some (r2, b2) => if b2 + 20 = q then some (r ++ (r2 ++ (l.drop b2).take 20)) else none
def dtS (l : List UInt8) (q : Nat) : Option (List UInt8 × Nat) → Option (List UInt8)
  | none => none
  | some (r, b) => dtS2 l r q (nameOf l b)
/-- The data of the type t that stands at p, n bytes, its names written out. -/
def dataOf (l : List UInt8) (p n : Nat) (t : Int) : Option (List UInt8) :=
  if t = 2 ∨ t = 5 ∨ t = 12 then dtN [] (p + n) (nameOf l p)
  else if t = 15 then (if n < 2 then none else dtN ((l.drop p).take 2) (p + n) (nameOf l (p + 2)))
  else if t = 6 then dtS l (p + n) (nameOf l p)
  else if mayD t ((l.drop p).take n) = true then some ((l.drop p).take n) else none

theorem pre_nil (o : Option (List UInt8 × Nat)) : pre [] o = o := by cases o <;> rfl
theorem pre_none {l : List UInt8} {P c : Nat} {O : List UInt8} (h : nameOf l P = none) : pre O (namesOf l P (c + 1)) = none := by rw [namesOf, h]; rfl
theorem pre_pre (O r : List UInt8) (o : Option (List UInt8 × Nat)) : pre O (pre r o) = pre (O ++ r) o := by
  cases o with
  | none => rfl
  | some z => obtain ⟨t, e⟩ := z; simp [pre]
theorem pre_some {l : List UInt8} {P c b : Nat} {O r : List UInt8} (h : nameOf l P = some (r, b)) : pre O (namesOf l P (c + 1)) = pre (O ++ r) (namesOf l b c) := by
  rw [namesOf, h]
  exact pre_pre _ _ _
theorem names_one (l : List UInt8) (p : Nat) : namesOf l p 1 = nameOf l p := by
  rw [namesOf]
  cases nameOf l p with
  | none => rfl
  | some z => obtain ⟨r, b⟩ := z; simp [namesOf, pre]
theorem data_n {l : List UInt8} {p n : Nat} {t : Int} (h : t = 2 ∨ t = 5 ∨ t = 12) : dataOf l p n t = dtN [] (p + n) (nameOf l p) := by unfold dataOf; rw [if_pos h]
theorem data_15 (l : List UInt8) (p n : Nat) : dataOf l p n 15 = if n < 2 then none else dtN ((l.drop p).take 2) (p + n) (nameOf l (p + 2)) := by unfold dataOf; rw [if_neg (by decide), if_pos rfl]
theorem data_6 (l : List UInt8) (p n : Nat) : dataOf l p n 6 = dtS l (p + n) (nameOf l p) := by unfold dataOf; rw [if_neg (by decide), if_neg (by decide), if_pos rfl]
theorem data_o {l : List UInt8} {p n : Nat} {t : Int} (h1 : ¬ (t = 2 ∨ t = 5 ∨ t = 12)) (h2 : t ≠ 15) (h3 : t ≠ 6) : dataOf l p n t = if mayD t ((l.drop p).take n) = true then some ((l.drop p).take n) else none := by unfold dataOf; rw [if_neg h1, if_neg h2, if_neg h3]
/-- Fewer than 20 bytes are no TypeSoa's data. -/
theorem data_6_short {l : List UInt8} {p n : Nat} (h : n < 20) : dataOf l p n 6 = none := by
  rw [data_6]
  cases a1 : nameOf l p with
  | none => rfl
  | some z =>
    obtain ⟨r, b⟩ := z
    rw [dtS]
    cases a2 : nameOf l b with
    | none => rfl
    | some z =>
      obtain ⟨r2, b2⟩ := z
      have := nameOf_some a1
      have := nameOf_some a2
      rw [dtS2, if_neg (by omega)]

end Go.Proofs.Ytdogjbblnjjaaab.Pl

/- Names that are compressed, as they are written: plain functions on bytes, with no word of the program. -/
namespace Go.Proofs.Ytdogjbblnjjaaab.Pl

/-- Rests of names, each with its place. -/
abbrev Marks := List (List UInt8 × Nat)

/-- Where a rest stands first. -/
def plc : Marks → List UInt8 → Option Nat
  | [], _ => none
  | (m, q) :: t, r => if m = r then some q else plc t r

theorem plc_app (a b : Marks) (r : List UInt8) : plc (a ++ b) r = (plc a r).or (plc b r) := by
  induction a with
  | nil => simp [plc]
  | cons c t ih =>
    obtain ⟨m, q⟩ := c
    rw [List.cons_append, plc, plc, ih]
    by_cases h : m = r
    · rw [if_pos h, if_pos h]; rfl
    · rw [if_neg h, if_neg h]
theorem plc_mem {ms : Marks} {r : List UInt8} {q : Nat} (h : plc ms r = some q) : (r, q) ∈ ms := by
  induction ms with
  | nil => simp [plc] at h
  | cons c t ih =>
    obtain ⟨m, q'⟩ := c
    rw [plc] at h
    split at h
    · rename_i e; simp at h; subst e h; simp
    · exact List.mem_cons_of_mem _ (ih h)
theorem plc_none {ms : Marks} {r : List UInt8} (h : ∀ q, (r, q) ∉ ms) : plc ms r = none := by
  cases hp : plc ms r with
  | none => rfl
  | some q => exact absurd (plc_mem hp) (h q)
theorem plc_keep {ms t : Marks} {r : List UInt8} {q : Nat} (h : plc ms r = some q) : plc (ms ++ t) r = some q := by rw [plc_app, h]; rfl

/-- The bytes of a pointer. -/
def ptrB (q : Nat) : List UInt8 := [UInt8.ofNat (192 + q / 256), UInt8.ofNat (q % 256)]

/-- From p on: how many bytes of a name are written out, and what ends it. -/
def spl : Nat → Marks → List UInt8 → Nat → Nat × List UInt8
  | 0, _, _, p => (p, [0])
  | f + 1, ms, n, p => if (n.getD p 0).toNat = 0 then (p, [0]) else
    match plc ms (n.drop p) with
    | some q => (p, ptrB q)
    | none => spl f ms n (p + 1 + (n.getD p 0).toNat)
def splN (ms : Marks) (n : List UInt8) : Nat × List UInt8 := spl n.length ms n 0

/-- Where labels begin, from p on, ahead of e. -/
def sts : Nat → List UInt8 → Nat → Nat → List Nat
  | 0, _, _, _ => []
  | f + 1, n, p, e => if p < e then p :: sts f n (p + 1 + (n.getD p 0).toNat) e else []
/-- The rests of a name that is written at b. -/
def mkM (b : Nat) (n : List UInt8) (qs : List Nat) : Marks := qs.map fun q => (n.drop q, b + q)
def newM (b : Nat) (n : List UInt8) (e : Nat) : Marks := mkM b n (sts n.length n 0 e)

/-- A name is written: all bytes, all rests. -/
def outW (B : List UInt8) (ms : Marks) (n : List UInt8) : List UInt8 := B ++ (n.take (splN ms n).1 ++ (splN ms n).2)
def marW (B : List UInt8) (ms : Marks) (n : List UInt8) : Marks := ms ++ newM B.length n (splN ms n).1
/-- How many bytes a name takes. -/
def sizW (ms : Marks) (n : List UInt8) : Nat := (splN ms n).1 + (splN ms n).2.length

/-- From p on a name goes on. -/
def NAt (n : List UInt8) (p : Nat) : Prop := (nmS 0 (n.drop p)).isSome = true

theorem nat_start {n : List UInt8} (h : isName n = true) : NAt n 0 := (name_some h).2
theorem nat_lt {n : List UInt8} {p : Nat} (h : NAt n p) : p < n.length := by
  have := nmS_cut h
  rw [List.length_drop] at this
  omega
theorem nat_zero {n : List UInt8} {p : Nat} (h : NAt n p) (hp : p < n.length) (h0 : n[p].toNat = 0) : p + 1 = n.length := by
  unfold NAt at h
  rw [drop_at n p hp, nmS, if_pos h0] at h
  split at h
  · rename_i e; rw [List.length_drop] at e; omega
  · simp at h
theorem nat_step {n : List UInt8} {p : Nat} (h : NAt n p) (hp : p < n.length) (h0 : n[p].toNat ≠ 0) : n[p].toNat ≤ 63 ∧ p + 1 + n[p].toNat < n.length ∧ NAt n (p + 1 + n[p].toNat) := by
  unfold NAt at h
  rw [drop_at n p hp] at h
  obtain ⟨h1, h2, h3⟩ := nmS_label h h0
  rw [List.length_drop] at h2
  rw [List.drop_drop] at h3
  exact ⟨h1, by omega, h3⟩
theorem nat_root {n : List UInt8} {p : Nat} (h : NAt n p) (hp : p < n.length) (h0 : n[p].toNat = 0) : n.drop p = [0] := by
  have := nat_zero h hp h0
  rw [drop_at n p hp, List.drop_of_length_le (by omega), show n[p] = 0 from UInt8.toNat_inj.1 (by simpa using h0)]
theorem nat_not_root {n : List UInt8} {p : Nat} (hp : p < n.length) (h0 : n[p].toNat ≠ 0) : n.drop p ≠ [0] := by
  rw [drop_at n p hp]
  intro e
  have := (List.cons.inj e).1
  rw [this] at h0
  exact h0 rfl
theorem nat_name {n : List UInt8} {p : Nat} (h : NAt n p) (hn : n.length ≤ 255) : isName (n.drop p) = true := by
  unfold isName nm
  rw [if_neg (by rw [List.length_drop]; omega)]
  exact h

theorem spl_ge : ∀ (f : Nat) (ms : Marks) (n : List UInt8) (p : Nat), p ≤ (spl f ms n p).1 := by
  intro f
  induction f with
  | zero => intros; exact Nat.le_refl _
  | succ f ih =>
    intro ms n p
    rw [spl]
    split
    · exact Nat.le_refl _
    · split
      · exact Nat.le_refl _
      · have := ih ms n (p + 1 + (n.getD p 0).toNat); omega
theorem sts_end (f : Nat) (n : List UInt8) {p e : Nat} (h : e ≤ p) : sts f n p e = [] := by
  cases f with
  | zero => rfl
  | succ f => rw [sts, if_neg (by omega)]

/-- The writing of a name stands at p, will end as R says, and labels were written out that begin at 'done'. -/
def WAt (ms : Marks) (n : List UInt8) (p : Nat) (R : Nat × List UInt8) (done : List Nat) : Prop :=
  NAt n p ∧ ∃ f, n.length ≤ f + p ∧ spl f ms n p = R ∧ sts n.length n 0 R.1 = done ++ sts f n p R.1

theorem w_start {n : List UInt8} (h : isName n = true) (ms : Marks) : WAt ms n 0 (splN ms n) [] := ⟨nat_start h, n.length, by omega, rfl, rfl⟩
section
variable {ms : Marks} {n : List UInt8} {p : Nat} {R : Nat × List UInt8} {done : List Nat}
theorem WAt.open (h : WAt ms n p R done) : ∃ f, n.length ≤ f + 1 + p ∧ spl (f + 1) ms n p = R ∧ sts n.length n 0 R.1 = done ++ sts (f + 1) n p R.1 := by
  obtain ⟨h0, f, hf, h1, h2⟩ := h
  have := nat_lt h0
  match f, hf, h1, h2 with
  | 0, hf, _, _ => omega
  | f + 1, hf, h1, h2 => exact ⟨f, by omega, h1, h2⟩
theorem w_zero (h : WAt ms n p R done) (hp : p < n.length) (h0 : n[p].toNat = 0) : R = (p, [0]) ∧ sts n.length n 0 p = done := by
  obtain ⟨f, hf, h1, h2⟩ := h.open
  rw [spl, getD_get hp, if_pos h0] at h1
  subst h1
  rw [sts_end _ _ (Nat.le_refl _), List.append_nil] at h2
  exact ⟨rfl, h2⟩
theorem w_hit (h : WAt ms n p R done) (hp : p < n.length) (h0 : n[p].toNat ≠ 0) {q : Nat} (hq : plc ms (n.drop p) = some q) : R = (p, ptrB q) ∧ sts n.length n 0 p = done := by
  obtain ⟨f, hf, h1, h2⟩ := h.open
  rw [spl, getD_get hp, if_neg h0, hq] at h1
  simp only at h1
  subst h1
  rw [sts_end _ _ (Nat.le_refl _), List.append_nil] at h2
  exact ⟨rfl, h2⟩
theorem w_miss (h : WAt ms n p R done) (hp : p < n.length) (h0 : n[p].toNat ≠ 0) (hq : plc ms (n.drop p) = none) : WAt ms n (p + 1 + n[p].toNat) R (done ++ [p]) ∧ p < R.1 := by
  have hn := h.1
  obtain ⟨f, hf, h1, h2⟩ := h.open
  rw [spl, getD_get hp, if_neg h0, hq] at h1
  simp only at h1
  have hge := spl_ge f ms n (p + 1 + n[p].toNat)
  rw [h1] at hge
  rw [sts, if_pos (by omega), getD_get hp] at h2
  exact ⟨⟨(nat_step hn hp h0).2.2, f, by omega, h1, by rw [h2]; simp⟩, by omega⟩
end

/-- The labels' places ahead of e are gone through up to p. -/
def KAt (n : List UInt8) (e p : Nat) (done : List Nat) : Prop := ∃ f, n.length ≤ f + p ∧ sts n.length n 0 e = done ++ sts f n p e
theorem k_start (n : List UInt8) (e : Nat) : KAt n e 0 [] := ⟨n.length, by omega, rfl⟩
theorem k_step {n : List UInt8} {e p : Nat} {done : List Nat} (h : KAt n e p done) (hp : p < n.length) (he : p < e) : KAt n e (p + 1 + n[p].toNat) (done ++ [p]) := by
  obtain ⟨f, hf, h⟩ := h
  match f, hf, h with
  | 0, hf, _ => omega
  | f + 1, hf, h =>
    rw [sts, if_pos he, getD_get hp] at h
    exact ⟨f, by omega, by rw [h]; simp⟩
theorem k_end {n : List UInt8} {e p : Nat} {done : List Nat} (h : KAt n e p done) (he : e ≤ p) : sts n.length n 0 e = done := by
  obtain ⟨f, hf, h⟩ := h
  rw [sts_end _ _ he, List.append_nil] at h
  exact h

/-- What is known of the place at which the labels that are written out end. -/
theorem spl_facts : ∀ (f : Nat) (ms : Marks) (n : List UInt8) (p : Nat), n.length ≤ f + p → NAt n p →
    (spl f ms n p).1 + (spl f ms n p).2.length ≤ n.length ∧ NAt n (spl f ms n p).1 ∧ (∀ q ∈ sts f n p (spl f ms n p).1, plc ms (n.drop q) = none ∧ q < (spl f ms n p).1 ∧ p ≤ q ∧ NAt n q ∧ (n.getD q 0).toNat ≠ 0) ∧
    ((∃ h : (spl f ms n p).1 < n.length, n[(spl f ms n p).1].toNat = 0 ∧ (spl f ms n p).2 = [0]) ∨ ∃ q, plc ms (n.drop (spl f ms n p).1) = some q ∧ (spl f ms n p).2 = ptrB q) := by
  intro f
  induction f with
  | zero => intro ms n p hf hn; have := nat_lt hn; omega
  | succ f ih =>
    intro ms n p hf hn
    have hp := nat_lt hn
    rw [spl, getD_get hp]
    by_cases h0 : n[p].toNat = 0
    · rw [if_pos h0]
      have := nat_zero hn hp h0
      refine ⟨by simp; omega, hn, ?_, .inl ⟨hp, h0, rfl⟩⟩
      rw [sts_end _ _ (Nat.le_refl _)]
      simp
    · rw [if_neg h0]
      obtain ⟨h1, h2, h3⟩ := nat_step hn hp h0
      cases hq : plc ms (n.drop p) with
      | some q =>
        refine ⟨by simp [ptrB]; omega, hn, ?_, .inr ⟨q, hq, rfl⟩⟩
        rw [sts_end _ _ (Nat.le_refl _)]
        simp
      | none =>
        obtain ⟨a1, a2, a3, a4⟩ := ih ms n (p + 1 + n[p].toNat) (by omega) h3
        refine ⟨a1, a2, ?_, a4⟩
        have hge := spl_ge f ms n (p + 1 + n[p].toNat)
        intro q hq'
        rw [sts, if_pos (by simp only; omega), getD_get hp] at hq'
        rcases List.mem_cons.1 hq' with rfl | hq'
        · exact ⟨hq, by simp only; omega, Nat.le_refl _, hn, by rw [getD_get hp]; exact h0⟩
        · have := a3 q hq'
          exact ⟨this.1, this.2.1, by omega, this.2.2.2⟩

theorem splN_size {n : List UInt8} (h : isName n = true) (ms : Marks) : sizW ms n ≤ n.length := (spl_facts n.length ms n 0 (by omega) (nat_start h)).1
theorem splN_at {n : List UInt8} (h : isName n = true) (ms : Marks) : NAt n (splN ms n).1 := (spl_facts n.length ms n 0 (by omega) (nat_start h)).2.1
theorem splN_miss {n : List UInt8} (h : isName n = true) (ms : Marks) (q : Nat) (hq : q ∈ sts n.length n 0 (splN ms n).1) : plc ms (n.drop q) = none ∧ q < (splN ms n).1 ∧ NAt n q ∧ (n.getD q 0).toNat ≠ 0 := by
  have := (spl_facts n.length ms n 0 (by omega) (nat_start h)).2.2.1 q hq
  exact ⟨this.1, this.2.1, this.2.2.2⟩
theorem splN_end {n : List UInt8} (h : isName n = true) (ms : Marks) : (∃ h : (splN ms n).1 < n.length, n[(splN ms n).1].toNat = 0 ∧ (splN ms n).2 = [0]) ∨ ∃ q, plc ms (n.drop (splN ms n).1) = some q ∧ (splN ms n).2 = ptrB q := (spl_facts n.length ms n 0 (by omega) (nat_start h)).2.2.2

theorem drop_ne {n : List UInt8} {p q : Nat} (hp : p < n.length) (h : q < p) : n.drop q ≠ n.drop p := by
  intro e
  have := congrArg List.length e
  rw [List.length_drop, List.length_drop] at this
  omega
theorem mkM_snoc (b : Nat) (n : List UInt8) (qs : List Nat) (p : Nat) : mkM b n (qs ++ [p]) = mkM b n qs ++ [(n.drop p, b + p)] := by simp [mkM]
/-- One rest more, which is not among the ones ahead of it. -/
theorem plc_snoc (ms : Marks) (r x : List UInt8) (q : Nat) (h : plc ms r = none) : plc (ms ++ [(r, q)]) x = if x = r then some q else plc ms x := by
  rw [plc_app, plc, plc]
  by_cases e : x = r
  · subst e; rw [h]; simp
  · rw [if_neg (fun e' => e e'.symm), if_neg e]; simp
theorem plc_done {n : List UInt8} {b p : Nat} {qs : List Nat} (hp : p < n.length) (h : ∀ q ∈ qs, q < p) : plc (mkM b n qs) (n.drop p) = none := by
  apply plc_none
  intro q hq
  simp only [mkM, List.mem_map, Prod.mk.injEq] at hq
  obtain ⟨a, ha, e, _⟩ := hq
  exact drop_ne hp (h a ha) e

end Go.Proofs.Ytdogjbblnjjaaab.Pl

/- What walk, target, pointer and Name of package comp give, for every argument. -/
namespace Go.Proofs.Ytdogjbblnjjaaab
open Go.RowKit
open Pl

theorem max_of {n : Nat} (h : n ≤ 140737488355328) : n ≤ maxLen := by unfold maxLen; omega

/-- What is known while labels are gone over, at q. -/
def WkI (l : List UInt8) (p g : Nat) (o : List UInt8) (x : Option Nat) (R : Option (List UInt8 × Nat)) (q : Nat) : Prop :=
  (q < l.length → RAt l q g (o ++ (l.drop p).take (q - p)) x R ∧ Labs (o ++ (l.drop p).take (q - p))) ∧ (l.length ≤ q → R = none)
/-- What walk leaves. -/
def WkP (l : List UInt8) (p g : Nat) (o : List UInt8) (x : Option Nat) (R : Option (List UInt8 × Nat)) (E : Int) (b : Bool) : Prop :=
  (b = false → R = none) ∧ (b = true → ∃ (q : Nat) (h : q < l.length), E = (q : Int) ∧ p ≤ q ∧ RAt l q g (o ++ (l.drop p).take (q - p)) x R ∧ Labs (o ++ (l.drop p).take (q - p)) ∧ o.length + (q - p) ≤ 254 ∧ (l[q].toNat = 0 ∨ 63 < l[q].toNat))

/-- What walk gives. -/
def WkE (l : List UInt8) (p g : Nat) (o : List UInt8) (x : Option Nat) (R : Option (List UInt8 × Nat)) (e : Ending) : Prop :=
  ∃ (E : Int) (b : Bool), e = .returned (.tuple #[.int .i64 E, .bool b]) ∧ WkP l p g o x R E b

theorem wk_start {l : List UInt8} {p g : Nat} {o : List UInt8} {x : Option Nat} {R : Option (List UInt8 × Nat)} (h : RAt l p g o x R) (ho : Labs o) : WkI l p g o x R p := by
  refine ⟨fun _ => ?_, fun hp => r_past h hp⟩
  rw [Nat.sub_self, List.take_zero, List.append_nil]
  exact ⟨h, ho⟩
theorem take_more {l : List UInt8} {p q k : Nat} (h : p ≤ q) : (l.drop p).take (q - p) ++ (l.drop q).take (1 + k) = (l.drop p).take (q + 1 + k - p) := by
  have e : (l.drop p).take ((q - p) + (1 + k)) = (l.drop p).take (q - p) ++ ((l.drop p).drop (q - p)).take (1 + k) := List.take_add
  rw [List.drop_drop, show p + (q - p) = q from by omega] at e
  rw [show q + 1 + k - p = (q - p) + (1 + k) from by omega, e]
theorem wk_len {l o : List UInt8} {p q : Nat} (hq : q ≤ l.length) (hp : p ≤ q) : (o ++ (l.drop p).take (q - p)).length = o.length + (q - p) := by
  rw [List.length_append, List.length_take, List.length_drop]; omega
theorem wk_step {l : List UInt8} {p g : Nat} {o : List UInt8} {x : Option Nat} {R : Option (List UInt8 × Nat)} {q : Nat} (h : WkI l p g o x R q) (hp : p ≤ q) (hq : q < l.length) (h0 : l[q].toNat ≠ 0) (h1 : l[q].toNat ≤ 63) (hl : o.length + (q - p) ≤ 254) : WkI l p g o x R (q + 1 + l[q].toNat) := by
  obtain ⟨hr, hlab⟩ := h.1 hq
  refine ⟨fun hlt => ?_, fun hge => r_cut hr hq h0 h1 hge⟩
  have a := r_lab hr hq h0 h1 (by omega) (by rw [wk_len (by omega) hp]; omega)
  have b := labs_step hlab hq h0 h1 (by omega)
  rw [List.append_assoc, take_more hp] at a b
  exact ⟨a, b⟩
theorem wk_long {l : List UInt8} {p g : Nat} {o : List UInt8} {x : Option Nat} {R : Option (List UInt8 × Nat)} {q : Nat} (h : WkI l p g o x R q) (hp : p ≤ q) (hl : 254 < o.length + (q - p)) : R = none := by
  by_cases hq : q < l.length
  · exact r_long (h.1 hq).1 (by rw [wk_len (by omega) hp]; omega)
  · exact h.2 (by omega)

theorem walk_any (s : ByteArray) (p g : Nat) (o : List UInt8) (x : Option Nat) (R : Option (List UInt8 × Nat)) (m : Int) (w : World) (hs : s.size ≤ 140737488355328) (hm : m = 254 - (o.length : Int)) (ho : o.length ≤ 254) (hr : RAt s.data.toList p g o x R) (hlab : Labs o) :
    Calls Try.prog 60 #[.string s, .int .i64 (p : Int), .int .i64 m] w fun e w' => WkE s.data.toList p g o x R e ∧ w' = w := by
  have hl := data_len s
  obtain ⟨n, hn⟩ : ∃ n, n = o.length := ⟨_, rfl⟩
  have HN : Hid (n = o.length) := hn
  have HST : Hid (WkI s.data.toList p g o x R p) := wk_start hr hlab
  rw [← hn] at ho hm
  subst hm
  clear hr hlab hn
  go_enter Try.func60, Try.ntmps60
  go_wp2
  go_loop [8] (fun i => ∃ q : Nat, p ≤ q ∧ i = .int .i64 (q : Int) ∧ n + (q - p) ≤ 254 ∧ Hid (WkI s.data.toList p g o x R q)) (fun i => s.size + 100 - (intOf i).toNat)
  case atStart => exact ⟨p, Nat.le_refl _, rfl, by omega, HST⟩
  case round =>
    clear HST
    obtain ⟨q, hpq, rfl, hq, HI⟩ := hrel
    by_cases hlt : q < s.size
    · have hlt' : q < s.data.toList.length := by omega
      have hb := UInt8.toNat_lt (s[q])
      by_cases h0 : s[q].toNat = 0
      · have h0' : ((s[q].toNat : Int) != 0) = false := by simp [h0]
        have HR : Hid (WkP s.data.toList p g o x R (q : Int) true) := ⟨fun e => by simp at e, fun _ => ⟨q, hlt', rfl, hpq, (HI.out.1 hlt').1, (HI.out.1 hlt').2, by rw [← HN.out]; exact hq, .inl h0⟩⟩
        clear h0
        go_wp2
        go_ret2
        exact ⟨⟨_, _, rfl, HR.out⟩, rfl⟩
      · have h0' : ((s[q].toNat : Int) != 0) = true := by simpa using h0
        by_cases h1 : s[q].toNat ≤ 63
        · have h1' : ((s[q].toNat : Int) / 64 == 0) = true := by simp; omega
          have HS : Hid (WkI s.data.toList p g o x R (q + 1 + s[q].toNat)) := wk_step HI.out hpq hlt' h0 h1 (by rw [← HN.out]; exact hq)
          by_cases hlong : (254 : Int) - (n : Int) < (q : Int) + (1 + (s[q].toNat : Int)) - (p : Int)
          · have HR : Hid (R = none) := wk_long HS.out (by omega) (by rw [← HN.out]; omega)
            go_wp2
            go_ret2
            exact ⟨⟨_, _, rfl, fun _ => HR.out, fun e => by simp at e⟩, rfl⟩
          · have hlong' : decide ((254 : Int) - (n : Int) < (q : Int) + (1 + (s[q].toNat : Int)) - (p : Int)) = false := by simpa using hlong
            go_wp2
            go_round
            case rel => exact ⟨q + 1 + s[q].toNat, by omega, by go_num, by omega, HS⟩
            case measure => simp [intOf]; omega
        · have h1' : ((s[q].toNat : Int) / 64 == 0) = false := by simp; omega
          have HR : Hid (WkP s.data.toList p g o x R (q : Int) true) := ⟨fun e => by simp at e, fun _ => ⟨q, hlt', rfl, hpq, (HI.out.1 hlt').1, (HI.out.1 hlt').2, by rw [← HN.out]; exact hq, .inr (by show 63 < s[q].toNat; omega)⟩⟩
          go_wp2
          go_ret2
          exact ⟨⟨_, _, rfl, HR.out⟩, rfl⟩
    · have HR : Hid (R = none) := HI.out.2 (by omega)
      have hlt' : decide (q < s.size) = false := by simpa using hlt
      go_wp2
      go_ret2
      exact ⟨⟨_, _, rfl, fun _ => HR.out, fun e => by simp at e⟩, rfl⟩

theorem ptr_two (a b : UInt8) : bits .and .u16 (two a b) 16383 = (((a.toNat * 256 + b.toNat) % 16384 : Nat) : Int) := by
  have ha := a.toNat_lt
  have hb := b.toNat_lt
  have wr : ∀ n : Int, 0 ≤ n → n < 2 ^ 16 → IntKind.u16.wrap n = n := fun n h0 h1 => by
    have : IntKind.u16.wrap n = n % 65536 := by simp [IntKind.wrap, IntKind.bits, IntKind.signed]
    rw [this]; omega
  have h := bits_mask .u16 16 (by decide) wr 14 (by decide) (two a b) (two_lt a b).1 (by have := (two_lt a b).2; omega)
  have h2 : bits .and .u16 (two a b) 16383 = two a b % 16384 := by simpa using h
  rw [h2]
  unfold two
  omega
theorem ptr_at (s : ByteArray) (q : Nat) (h : q + 2 ≤ s.size) : ptrAt s.data.toList q = (s[q].toNat * 256 + s[q + 1].toNat) % 16384 := by
  unfold ptrAt
  rw [val_getD s q (by omega), val_getD s (q + 1) (by omega)]

theorem target_yes (s : ByteArray) (q : Nat) (w : World) (hs : s.size ≤ 140737488355328) (h : q + 2 ≤ s.size) (h3 : 191 < s[q].toNat) :
    Calls Try.prog 61 #[.string s, .int .i64 (q : Int)] w fun e w' => e = .returned (.tuple #[.int .i64 (ptrAt s.data.toList q : Int), .bool true]) ∧ ∃ m, w' = w.drewN m := by
  have h0 := s[q].toNat_lt
  have h1 := s[q + 1].toNat_lt
  have hor := or8 s[q].toNat s[q + 1].toNat h0 h1
  have hand := ptr_two s[q] s[q + 1]
  rw [← ptr_at s q h] at hand
  have hlt : ptrAt s.data.toList q < 16384 := Nat.mod_lt _ (by decide)
  have ht : 256 * (s[q].toNat : Int) + (s[q + 1].toNat : Int) = two s[q] s[q + 1] := rfl
  rw [ht] at hor
  have i0 := idx s q q rfl (by omega)
  have i1 := idx s (q + 1) ((q : Int) + 1) (by omega) (by omega)
  have t1 : ((s[q].toNat : Int) / 64 != 3) = false := by simp; omega
  have t2 : decide ((s.size : Int) ≤ (q : Int) + 1) = false := by simp; omega
  have w4 : IntKind.i64.wrap ((q : Int) + 1) = (q : Int) + 1 := by rw [IntKind.wrap_i64]; omega
  obtain ⟨T, hT⟩ : ∃ T, T = ptrAt s.data.toList q := ⟨_, rfl⟩
  rw [← hT] at hand hlt ⊢
  clear hT
  obtain ⟨y, hy⟩ : ∃ y, y = two s[q] s[q + 1] := ⟨_, rfl⟩
  rw [← hy] at hor hand
  clear hy ht
  go_enter Try.func61, Try.ntmps61
  go_wp2
  go_quiet (fail)
  go_wp2
  go_ret2
  exact ⟨rfl, _, rfl⟩

theorem target_no (s : ByteArray) (q : Nat) (w : World) (hs : s.size ≤ 140737488355328) (hq : q < s.size) (h : s[q].toNat ≤ 191 ∨ s.size < q + 2) :
    Calls Try.prog 61 #[.string s, .int .i64 (q : Int)] w fun e w' => e = .returned (.tuple #[.int .i64 0, .bool false]) ∧ w' = w := by
  have h0 := s[q].toNat_lt
  have i0 := idx s q q rfl (by omega)
  by_cases h3 : s[q].toNat ≤ 191
  · have t1 : ((s[q].toNat : Int) / 64 != 3) = true := by simp; omega
    clear h
    go_enter Try.func61, Try.ntmps61
    go_wp2
    go_ret2
    exact ⟨rfl, rfl⟩
  · have t1 : ((s[q].toNat : Int) / 64 != 3) = false := by simp; omega
    have t2 : (s.size : Int) ≤ (q : Int) + 1 := by omega
    clear h
    go_enter Try.func61, Try.ntmps61
    go_wp2
    go_ret2
    exact ⟨rfl, rfl⟩

theorem ptr_bytes (q : Nat) (h : q < 16384) : (ptrB q).map bv = [.int .u8 (((49152 : Int) + (q : Int)) / 256 % 256), .int .u8 (((49152 : Int) + (q : Int)) % 256)] := by
  unfold ptrB bv
  simp only [List.map_cons, List.map_nil]
  have e1 : ((192 + q / 256 : Nat) : Int) = ((49152 : Int) + (q : Int)) / 256 % 256 := by omega
  have e2 : ((q % 256 : Nat) : Int) = ((49152 : Int) + (q : Int)) % 256 := by omega
  rw [toNat_of (by omega), toNat_of (by omega), e1, e2]
theorem pointer_any (q : Nat) (w : World) (h : q < 16384) :
    Calls Try.prog 73 #[.int .i64 (q : Int)] w fun e w' => e = .returned (.string ⟨(ptrB q).toArray⟩) ∧ Below w.heap.size w w' := by
  have kc : (convert 27 9 (.slice (some ⟨w.heap.size, 0, none⟩) 2 2)).run Try.prog (w.alloc (.cells #[.int .u8 (((49152 : Int) + (q : Int)) / 256), .int .u8 (((49152 : Int) + (q : Int)) % 256)] 5)) = .ok (.string ⟨(ptrB q).toArray⟩) (w.alloc (.cells #[.int .u8 (((49152 : Int) + (q : Int)) / 256), .int .u8 (((49152 : Int) + (q : Int)) % 256)] 5)) := by
    have := conv_lit (ptrB q) w
    rw [ptr_bytes q h, show ((49152 : Int) + (q : Int)) / 256 % 256 = ((49152 : Int) + (q : Int)) / 256 from by omega] at this
    exact this
  have hor : bits .or .u16 49152 (q : Int) = 49152 + (q : Int) := by
    have e : (49152 : Int) = ((2 ^ 14 * 3 : Nat) : Int) := by decide
    rw [e, u16_or_nat _ _ (by omega) (by omega), ← Nat.two_pow_add_eq_or_of_lt (by omega)]
    omega
  go_enter Try.func73, Try.ntmps73
  go_wp2
  go_ret
  exact ⟨rfl, (Below.refl _ _).alloc (Nat.le_refl _) _⟩

end Go.Proofs.Ytdogjbblnjjaaab
