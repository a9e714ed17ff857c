/- What May of package rdata gives, for every argument. -/
import Derived.Test.YtbffnicfibfceaaXP1
import Derived.Lib.AppendStr
import Derived.StringKeys
import Derived.Maps.OwnSet
import Derived.Maps.OwnOps
import Derived.WalkSpells
import Derived.Deep.RegionLaw
import Derived.Deep.RegionWith
import Derived.Deep.RegionHeld3
import Derived.Deep.AppendSrc
import Derived.Deep.Upon
namespace Go.Proofs.Ytbffnicfibfceaa
open Go.RowKit
open Pl

theorem soaNames_as (s : ByteArray) (o : Option (Nat × Nat)) (w : World) (hs : s.size ≤ maxLen) (h : soaL s.data.toList = o) :
    Calls Try.prog 65 #[.string s] w fun e w' => e = .returned (soaT s o) ∧ ∃ m, w' = w.drewN m := by rw [← h]; exact soaNames_any s w hs

/-- The tests of a type that the document does not name. -/
theorem other_tests {t : Int} (h : Other t) : (t == 1) = false ∧ (t == 28) = false ∧ (t == 2) = false ∧ (t == 5) = false ∧ (t == 12) = false ∧ (t == 15) = false ∧ (t == 6) = false ∧ (t == 16) = false := by
  obtain ⟨h1, h2, h3, h4, h5, h6, h7, h8⟩ := h
  refine ⟨?_, ?_, ?_, ?_, ?_, ?_, ?_, ?_⟩ <;> (rw [beq_eq_false_iff_ne]; assumption)

set_option maxRecDepth 20000 in
theorem may4_any (t : Int) (s : ByteArray) (w : World) (hs : s.size ≤ maxLen) :
    Calls Try.prog 61 #[.int .i64 t, .string s] w fun e w' => e = .returned (.bool (mayD t s.data.toList)) ∧ ∃ m, w' = w.drewN m := by
  have HM : Hid (s.size ≤ maxLen) := hs
  unfold maxLen at hs
  have hl := data_len s
  rcases kinds t with rfl | rfl | h | rfl | rfl | rfl | h
  · have HR : Hid (mayD 1 s.data.toList = ((s.size : Int) == 4)) := by unfold Hid; rw [may_1, Bool.eq_iff_iff]; simp; omega
    go_enter Try.func61, Try.ntmps61
    go_wp2
    go_ret
    exact ⟨ret_bool HR.out.symm, 0, rfl⟩
  · have HR : Hid (mayD 28 s.data.toList = ((s.size : Int) == 16)) := by unfold Hid; rw [may_28, Bool.eq_iff_iff]; simp; omega
    go_enter Try.func61, Try.ntmps61
    go_wp2
    go_ret
    exact ⟨ret_bool HR.out.symm, 0, rfl⟩
  · have HR := may_n h s.data.toList
    rw [HR]
    rcases h with rfl | rfl | rfl
    all_goals
      go_enter Try.func61, Try.ntmps61
      go_wp2_with (go_at_call 64; go_must (refine (may_any _ _ HM.out).mono ?_); rintro e w' ⟨rfl, hw⟩; obtain rfl := hw.symm)
      go_ret
      exact ⟨rfl, 0, rfl⟩
  · by_cases h2 : 2 < s.size
    · have hcut := cut_rest s 2 2 rfl (by omega)
      obtain ⟨r, hr⟩ : ∃ r, isName (s.extract 2 s.size).data.toList = r := ⟨_, rfl⟩
      have HR : Hid (mayD 15 s.data.toList = r) := by unfold Hid; rw [← hr, may_15, ext_from]; simp; omega
      have h2' : (2 : Int) < (s.size : Int) := by omega
      go_enter Try.func61, Try.ntmps61
      go_wp2_with (go_at_call 64; go_must (refine (may_as _ r _ (by unfold maxLen; simp; omega) hr).mono ?_); rintro e w' ⟨rfl, hw⟩; obtain rfl := hw.symm)
      go_ret
      exact ⟨ret_bool HR.out.symm, 0, rfl⟩
    · have HR : Hid (mayD 15 s.data.toList = false) := by unfold Hid; rw [may_15]; simp; omega
      have h2' : decide ((2 : Int) < (s.size : Int)) = false := by simp; omega
      go_enter Try.func61, Try.ntmps61
      go_wp2
      go_ret
      exact ⟨ret_bool HR.out.symm, 0, rfl⟩
  · rw [may_6]
    cases ho : soaL s.data.toList with
    | none =>
      go_enter Try.func61, Try.ntmps61
      go_wp2_with (go_at_call 65; go_must (refine (soaNames_as s none _ HM.out ho).mono ?_); rintro e w1 ⟨rfl, b1⟩; unfold soaT)
      go_ret
      exact ⟨rfl, b1⟩
    | some ab =>
      obtain ⟨a, b⟩ := ab
      go_enter Try.func61, Try.ntmps61
      go_wp2_with (go_at_call 65; go_must (refine (soaNames_as s (some (a, b)) _ HM.out ho).mono ?_); rintro e w1 ⟨rfl, b1⟩; unfold soaT)
      go_ret
      exact ⟨rfl, b1⟩
  · by_cases h2 : s.size ≤ 65535
    · have HR : Hid (mayD 16 s.data.toList = texts s.data.toList) := by unfold Hid; rw [may_16]; simp; omega
      have h2' : (s.size : Int) ≤ 65535 := by omega
      go_enter Try.func61, Try.ntmps61
      go_wp2_with (go_at_call 66; go_must (refine (mayTexts_any _ _ h2).mono ?_); rintro e w' ⟨rfl, hw⟩; obtain rfl := hw.symm)
      go_ret
      exact ⟨ret_bool HR.out.symm, 0, rfl⟩
    · have HR : Hid (mayD 16 s.data.toList = false) := may_long 16 (by omega)
      have h2' : decide ((s.size : Int) ≤ 65535) = false := by simp; omega
      go_enter Try.func61, Try.ntmps61
      go_wp2
      go_ret
      exact ⟨ret_bool HR.out.symm, 0, rfl⟩
  · have HO : Hid (mayD t s.data.toList = (decide (1 ≤ t) && decide (t ≤ 65535) && decide (s.data.toList.length ≤ 65535))) := may_o h _
    obtain ⟨h1, h2, h3, h4, h5, h6, h7, h8⟩ := other_tests h
    clear h
    by_cases p1 : 1 ≤ t
    · by_cases p2 : t ≤ 65535
      · have HR : Hid (mayD t s.data.toList = decide ((s.size : Int) ≤ 65535)) := by unfold Hid; rw [HO.out, Bool.eq_iff_iff]; simp; omega
        go_enter Try.func61, Try.ntmps61
        go_wp2
        go_ret
        exact ⟨ret_bool HR.out.symm, 0, rfl⟩
      · have HR : Hid (mayD t s.data.toList = false) := may_none (.inr (by omega)) _
        have p2' : decide (t ≤ 65535) = false := by simpa using p2
        go_enter Try.func61, Try.ntmps61
        go_wp2
        go_ret
        exact ⟨ret_bool HR.out.symm, 0, rfl⟩
    · have HR : Hid (mayD t s.data.toList = false) := may_none (.inl (by omega)) _
      have p1' : decide (1 ≤ t) = false := by simpa using p1
      go_enter Try.func61, Try.ntmps61
      go_wp2
      go_ret
      exact ⟨ret_bool HR.out.symm, 0, rfl⟩

end Go.Proofs.Ytbffnicfibfceaa

/- Names that are compressed, as they are read: plain functions on bytes, with no word of the program. -/
namespace Go.Proofs.Ytbffnicfibfceaa.Pl

/-- The place that the two bytes at p point to. -/
def ptrAt (l : List UInt8) (p : Nat) : Nat := ((l.getD p 0).toNat * 256 + (l.getD (p + 1) 0).toNat) % 16384

/-- A name is read on from p; g: where its labels began; o: the labels behind; x: the place behind the first pointer. -/
def rn : Nat → List UInt8 → Nat → Nat → List UInt8 → Option Nat → Option (List UInt8 × Nat)
  | 0, _, _, _, _, _ => none
  | f + 1, l, p, g, o, x =>
    if p < l.length then
      if (l.getD p 0).toNat = 0 then (if 255 < o.length + 1 then none else some (o ++ [0], x.getD (p + 1)))
      else if 191 < (l.getD p 0).toNat then
        (if p + 2 ≤ l.length ∧ ptrAt l p < g then rn f l (ptrAt l p) (ptrAt l p) o (some (x.getD (p + 2))) else none)
      else if 63 < (l.getD p 0).toNat ∨ l.length < p + 1 + (l.getD p 0).toNat then none
      else rn f l (p + 1 + (l.getD p 0).toNat) g (o ++ (l.drop p).take (1 + (l.getD p 0).toNat)) x
    else none

/-- The name at p, and the place behind it. -/
def nameOf (l : List UInt8) (p : Nat) : Option (List UInt8 × Nat) := rn (p * 512 + 513) l p p [] none

/-- The reading stands at p, and will give R. -/
def RAt (l : List UInt8) (p g : Nat) (o : List UInt8) (x : Option Nat) (R : Option (List UInt8 × Nat)) : Prop := ∃ f, g * 512 + (512 - o.length) + 1 ≤ f ∧ rn f l p g o x = R

theorem need_lab (g n k f : Nat) (h : g * 512 + (512 - n) ≤ f) (hn : n ≤ 255) : g * 512 + (512 - (n + (1 + k))) + 1 ≤ f := by
  have h1 : 512 - (n + (1 + k)) + 1 ≤ 512 - n := by omega
  have h2 := Nat.add_le_add_left h1 (g * 512)
  rw [← Nat.add_assoc] at h2
  exact Nat.le_trans h2 h
theorem need_ptr (g k n f : Nat) (h : g * 512 + (512 - n) ≤ f) (hk : k < g) : k * 512 + (512 - n) + 1 ≤ f := by
  have h1 : k * 512 + 1 ≤ g * 512 := by
    have := Nat.mul_le_mul_right 512 hk
    rw [Nat.succ_mul] at this
    exact Nat.le_trans (Nat.add_le_add_left (by decide) _) this
  have h2 := Nat.add_le_add_right h1 (512 - n)
  rw [Nat.add_right_comm] at h2
  exact Nat.le_trans h2 h
theorem r_start (l : List UInt8) (p : Nat) : RAt l p p [] none (nameOf l p) := ⟨_, by simp, rfl⟩

theorem getD_get {l : List UInt8} {p : Nat} (h : p < l.length) : l.getD p 0 = l[p] := by rw [List.getD_eq_getElem?_getD, List.getElem?_eq_getElem h]; rfl

theorem lab_len {l : List UInt8} {p k : Nat} (h : p + 1 + k ≤ l.length) : ((l.drop p).take (1 + k)).length = 1 + k := by rw [List.length_take, List.length_drop]; omega

theorem rn_long : ∀ (f : Nat) (l : List UInt8) (p g : Nat) (o : List UInt8) (x : Option Nat), 255 ≤ o.length → rn f l p g o x = none := by
  intro f
  induction f with
  | zero => intros; rfl
  | succ f ih =>
    intro l p g o x h
    rw [rn]
    split
    · split
      · rw [if_pos (by omega)]
      · split
        · split
          · exact ih _ _ _ _ _ h
          · rfl
        · split
          · rfl
          · exact ih _ _ _ _ _ (by rw [List.length_append]; omega)
    · rfl

section
variable {l : List UInt8} {p g : Nat} {o : List UInt8} {x : Option Nat} {R : Option (List UInt8 × Nat)}

theorem RAt.open (h : RAt l p g o x R) : ∃ f, g * 512 + (512 - o.length) ≤ f ∧ rn (f + 1) l p g o x = R := by
  obtain ⟨f, hf, h⟩ := h
  cases f with
  | zero => omega
  | succ f => exact ⟨f, Nat.le_of_succ_le_succ hf, h⟩

theorem r_long (h : RAt l p g o x R) (ho : 255 ≤ o.length) : R = none := by
  obtain ⟨f, _, h⟩ := h
  rw [← h]; exact rn_long _ _ _ _ _ _ ho
theorem r_past (h : RAt l p g o x R) (hp : l.length ≤ p) : R = none := by
  obtain ⟨f, _, h⟩ := h.open
  rw [rn, if_neg (by omega)] at h
  exact h.symm
theorem r_zero (h : RAt l p g o x R) (hp : p < l.length) (h0 : l[p].toNat = 0) (ho : o.length ≤ 254) : R = some (o ++ [0], x.getD (p + 1)) := by
  obtain ⟨f, _, h⟩ := h.open
  rw [rn, if_pos hp, getD_get hp, if_pos h0, if_neg (by omega)] at h
  exact h.symm
theorem r_bad (h : RAt l p g o x R) (hp : p < l.length) (h0 : 63 < l[p].toNat) (h1 : l[p].toNat ≤ 191) : R = none := by
  obtain ⟨f, _, h⟩ := h.open
  rw [rn, if_pos hp, getD_get hp, if_neg (by omega), if_neg (by omega), if_pos (.inl h0)] at h
  exact h.symm
theorem r_cut (h : RAt l p g o x R) (hp : p < l.length) (h0 : l[p].toNat ≠ 0) (h1 : l[p].toNat ≤ 63) (h2 : l.length ≤ p + 1 + l[p].toNat) : R = none := by
  obtain ⟨f, hf, h⟩ := h.open
  rw [rn, if_pos hp, getD_get hp, if_neg h0, if_neg (by omega)] at h
  split at h
  · exact h.symm
  · match f with
    | 0 => rw [rn] at h; exact h.symm
    | f + 1 => rw [rn, if_neg (by omega)] at h; exact h.symm
theorem r_lab (h : RAt l p g o x R) (hp : p < l.length) (h0 : l[p].toNat ≠ 0) (h1 : l[p].toNat ≤ 63) (h2 : p + 1 + l[p].toNat ≤ l.length) (ho : o.length ≤ 255) : RAt l (p + 1 + l[p].toNat) g (o ++ (l.drop p).take (1 + l[p].toNat)) x R := by
  obtain ⟨f, hf, h⟩ := h.open
  rw [rn, if_pos hp, getD_get hp, if_neg h0, if_neg (by omega), if_neg (by omega)] at h
  have hl : (o ++ (l.drop p).take (1 + l[p].toNat)).length = o.length + (1 + l[p].toNat) := by rw [List.length_append, lab_len h2]
  refine ⟨f, ?_, h⟩
  rw [hl]
  exact need_lab g o.length _ f hf ho
theorem r_ptr (h : RAt l p g o x R) (hp : p < l.length) (h0 : 191 < l[p].toNat) (h1 : p + 2 ≤ l.length) (h2 : ptrAt l p < g) : RAt l (ptrAt l p) (ptrAt l p) o (some (x.getD (p + 2))) R := by
  obtain ⟨f, hf, h⟩ := h.open
  rw [rn, if_pos hp, getD_get hp, if_neg (by omega), if_pos h0, if_pos ⟨h1, h2⟩] at h
  refine ⟨f, ?_, h⟩
  exact need_ptr g _ o.length f hf h2
theorem r_ptr_no (h : RAt l p g o x R) (hp : p < l.length) (h0 : 191 < l[p].toNat) (h1 : l.length < p + 2 ∨ g ≤ ptrAt l p) : R = none := by
  obtain ⟨f, hf, h⟩ := h.open
  rw [rn, if_pos hp, getD_get hp, if_neg (by omega), if_pos h0, if_neg (by omega)] at h
  exact h.symm
end

/-- Labels, one behind the other. -/
def Labs (o : List UInt8) : Prop := ∀ r, (nmS 0 (o ++ r)).isSome = (nmS 0 r).isSome

theorem labs_nil : Labs [] := fun _ => rfl
theorem labs_lab {c : UInt8} {r : List UInt8} (h0 : c.toNat ≠ 0) (h1 : c.toNat ≤ 63) (h2 : r.length = c.toNat) : Labs (c :: r) := by
  intro t
  rw [List.cons_append, nmS, if_neg h0, if_neg (by omega), nmS_drop, ← h2, List.drop_left]
  simp
theorem labs_app {a b : List UInt8} (ha : Labs a) (hb : Labs b) : Labs (a ++ b) := fun r => by rw [List.append_assoc, ha, hb]
theorem take_lab {l : List UInt8} {p : Nat} (hp : p < l.length) (k : Nat) : (l.drop p).take (1 + k) = l[p] :: (l.drop (p + 1)).take k := by
  rw [drop_at l p hp, Nat.add_comm 1 k, List.take_succ_cons]
theorem labs_step {l o : List UInt8} {p : Nat} (ho : Labs o) (hp : p < l.length) (h0 : l[p].toNat ≠ 0) (h1 : l[p].toNat ≤ 63) (h2 : p + 1 + l[p].toNat ≤ l.length) : Labs (o ++ (l.drop p).take (1 + l[p].toNat)) := by
  rw [take_lab hp]
  exact labs_app ho (labs_lab h0 h1 (by rw [List.length_take, List.length_drop]; omega))
theorem labs_name {o : List UInt8} (h : Labs o) (hl : o.length ≤ 254) : isName (o ++ [0]) = true := by
  unfold isName nm
  rw [if_neg (by rw [List.length_append]; simp; omega), h [0]]
  rfl

theorem rn_name : ∀ (f : Nat) (l : List UInt8) (p g : Nat) (o : List UInt8) (x : Option Nat) (r : List UInt8) (b : Nat), Labs o → (∀ y, x = some y → y ≤ l.length) → rn f l p g o x = some (r, b) → isName r = true ∧ b ≤ l.length ∧ (x = none → p < b) := by
  intro f
  induction f with
  | zero => intro l p g o x r b _ _ h; simp [rn] at h
  | succ f ih =>
    intro l p g o x r b hl hx h
    rw [rn] at h
    split at h
    · rename_i hp
      rw [getD_get hp] at h
      split at h
      · split at h
        · simp at h
        · rename_i hs
          simp only [Option.some.injEq, Prod.mk.injEq] at h
          obtain ⟨rfl, rfl⟩ := h
          refine ⟨labs_name hl (by omega), ?_, ?_⟩
          · cases x with
            | none => simp; omega
            | some y => simpa using hx y rfl
          · rintro rfl; simp
      · rename_i h0
        split at h
        · split at h
          · rename_i hq
            have := ih _ _ _ _ _ _ _ hl (by
              intro y hy
              simp only [Option.some.injEq] at hy
              cases x with
              | none => simp at hy; omega
              | some z => simp at hy; subst hy; exact hx z rfl) h
            refine ⟨this.1, this.2.1, ?_⟩
            rintro rfl
            simp only [Option.getD_none] at h
            clear this ih hx
            have key : ∀ (f : Nat) (l : List UInt8) (p g : Nat) (o : List UInt8) (y : Nat) (r : List UInt8) (b : Nat), rn f l p g o (some y) = some (r, b) → b = y := by
              intro f
              induction f with
              | zero => intro l p g o y r b h; simp [rn] at h
              | succ f ih =>
                intro l p g o y r b h
                rw [rn] at h
                split at h
                · split at h
                  · split at h
                    · simp at h
                    · simp at h; exact h.2.symm
                  · split at h
                    · split at h
                      · have := ih _ _ _ _ _ _ _ h; simpa using this
                      · simp at h
                    · split at h
                      · simp at h
                      · exact ih _ _ _ _ _ _ _ h
                · simp at h
            have := key _ _ _ _ _ _ _ _ h
            omega
          · simp at h
        · split at h
          · simp at h
          · rename_i h1 h2
            have := ih _ _ _ _ _ _ _ (labs_step hl hp h0 (by omega) (by omega)) hx h
            exact ⟨this.1, this.2.1, fun e => by have := this.2.2 e; omega⟩
    · simp at h

theorem nameOf_some {l : List UInt8} {p : Nat} {r : List UInt8} {b : Nat} (h : nameOf l p = some (r, b)) : isName r = true ∧ b ≤ l.length ∧ p < b := by
  have := rn_name _ _ _ _ _ _ _ _ labs_nil (fun y hy => by simp at hy) h
  exact ⟨this.1, this.2.1, this.2.2 rfl⟩

/-- Names with others ahead of them. -/
def preC (O : List UInt8) : Option (List UInt8 × Nat) → Option (List UInt8 × Nat)
  | none => none
  | some (t, b) => some (O ++ t, b)
/-- So many names, one behind the other, and the place behind them. -/
def namesOf (l : List UInt8) : Nat → Nat → Option (List UInt8 × Nat)
  | p, 0 => some ([], p)
  | p, c + 1 => match nameOf l p with
    | none => none
    | some (r, b) => preC r (namesOf l b c)

/-- Data of one name that ends at q, with h ahead of it; of two names and 20 bytes. -/
def dtN (h : List UInt8) (q : Nat) : Option (List UInt8 × Nat) → Option (List UInt8)
  | none => none
  | some (r, b) => if b = q then some (h ++ r) else none
def dtS2 (l r : List UInt8) (q : Nat) : Option (List UInt8 × Nat) → Option (List UInt8)
  | none => none
  | some (r2, b2) => if b2 + 20 = q then some (r ++ (r2 ++ (l.drop b2).take 20)) else none
def dtS (l : List UInt8) (q : Nat) : Option (List UInt8 × Nat) → Option (List UInt8)
  | none => none
  | some (r, b) => dtS2 l r q (nameOf l b)
/-- The data of the type t that stands at p, n bytes, its names written out. -/
def dataOf (l : List UInt8) (p n : Nat) (t : Int) : Option (List UInt8) :=
  if t = 2 ∨ t = 5 ∨ t = 12 then dtN [] (p + n) (nameOf l p)
  else if t = 15 then (if n < 2 then none else dtN ((l.drop p).take 2) (p + n) (nameOf l (p + 2)))
  else if t = 6 then dtS l (p + n) (nameOf l p)
  else if mayD t ((l.drop p).take n) = true then some ((l.drop p).take n) else none

theorem preC_nil (o : Option (List UInt8 × Nat)) : preC [] o = o := by cases o <;> rfl
theorem pre_none {l : List UInt8} {P c : Nat} {O : List UInt8} (h : nameOf l P = none) : preC O (namesOf l P (c + 1)) = none := by rw [namesOf, h]; rfl
theorem pre_pre (O r : List UInt8) (o : Option (List UInt8 × Nat)) : preC O (preC r o) = preC (O ++ r) o := by
  cases o with
  | none => rfl
  | some z => obtain ⟨t, e⟩ := z; simp [preC]
theorem pre_some {l : List UInt8} {P c b : Nat} {O r : List UInt8} (h : nameOf l P = some (r, b)) : preC O (namesOf l P (c + 1)) = preC (O ++ r) (namesOf l b c) := by
  rw [namesOf, h]
  exact pre_pre _ _ _
theorem names_one (l : List UInt8) (p : Nat) : namesOf l p 1 = nameOf l p := by
  rw [namesOf]
  cases nameOf l p with
  | none => rfl
  | some z => obtain ⟨r, b⟩ := z; simp [namesOf, preC]
theorem data_n {l : List UInt8} {p n : Nat} {t : Int} (h : t = 2 ∨ t = 5 ∨ t = 12) : dataOf l p n t = dtN [] (p + n) (nameOf l p) := by unfold dataOf; rw [if_pos h]
theorem data_15 (l : List UInt8) (p n : Nat) : dataOf l p n 15 = if n < 2 then none else dtN ((l.drop p).take 2) (p + n) (nameOf l (p + 2)) := by unfold dataOf; rw [if_neg (by decide), if_pos rfl]
theorem data_6 (l : List UInt8) (p n : Nat) : dataOf l p n 6 = dtS l (p + n) (nameOf l p) := by unfold dataOf; rw [if_neg (by decide), if_neg (by decide), if_pos rfl]
theorem data_o {l : List UInt8} {p n : Nat} {t : Int} (h1 : ¬ (t = 2 ∨ t = 5 ∨ t = 12)) (h2 : t ≠ 15) (h3 : t ≠ 6) : dataOf l p n t = if mayD t ((l.drop p).take n) = true then some ((l.drop p).take n) else none := by unfold dataOf; rw [if_neg h1, if_neg h2, if_neg h3]
/-- Fewer than 20 bytes are no TypeSoa's data. -/
theorem data_6_short {l : List UInt8} {p n : Nat} (h : n < 20) : dataOf l p n 6 = none := by
  rw [data_6]
  cases a1 : nameOf l p with
  | none => rfl
  | some z =>
    obtain ⟨r, b⟩ := z
    rw [dtS]
    cases a2 : nameOf l b with
    | none => rfl
    | some z =>
      obtain ⟨r2, b2⟩ := z
      have := nameOf_some a1
      have := nameOf_some a2
      rw [dtS2, if_neg (by omega)]

end Go.Proofs.Ytbffnicfibfceaa.Pl

/- Names that are compressed, as they are written: plain functions on bytes, with no word of the program. -/
namespace Go.Proofs.Ytbffnicfibfceaa.Pl

/-- Rests of names, each with its place. -/
abbrev Marks := List (List UInt8 × Nat)

/-- Where a rest stands first. -/
def plc : Marks → List UInt8 → Option Nat
  | [], _ => none
  | (m, q) :: t, r => if m = r then some q else plc t r

theorem plc_app (a b : Marks) (r : List UInt8) : plc (a ++ b) r = (plc a r).or (plc b r) := by
  induction a with
  | nil => simp [plc]
  | cons c t ih =>
    obtain ⟨m, q⟩ := c
    rw [List.cons_append, plc, plc, ih]
    by_cases h : m = r
    · rw [if_pos h, if_pos h]; rfl
    · rw [if_neg h, if_neg h]
theorem plc_mem {ms : Marks} {r : List UInt8} {q : Nat} (h : plc ms r = some q) : (r, q) ∈ ms := by
  induction ms with
  | nil => simp [plc] at h
  | cons c t ih =>
    obtain ⟨m, q'⟩ := c
    rw [plc] at h
    split at h
    · rename_i e; simp at h; subst e h; simp
    · exact List.mem_cons_of_mem _ (ih h)
theorem plc_none {ms : Marks} {r : List UInt8} (h : ∀ q, (r, q) ∉ ms) : plc ms r = none := by
  cases hp : plc ms r with
  | none => rfl
  | some q => exact absurd (plc_mem hp) (h q)
theorem plc_keep {ms t : Marks} {r : List UInt8} {q : Nat} (h : plc ms r = some q) : plc (ms ++ t) r = some q := by rw [plc_app, h]; rfl

/-- The bytes of a pointer. -/
def ptrB (q : Nat) : List UInt8 := [UInt8.ofNat (192 + q / 256), UInt8.ofNat (q % 256)]

/-- From p on: how many bytes of a name are written out, and what ends it. -/
def spl : Nat → Marks → List UInt8 → Nat → Nat × List UInt8
  | 0, _, _, p => (p, [0])
  | f + 1, ms, n, p => if (n.getD p 0).toNat = 0 then (p, [0]) else
    match plc ms (n.drop p) with
    | some q => (p, ptrB q)
    | none => spl f ms n (p + 1 + (n.getD p 0).toNat)
def splN (ms : Marks) (n : List UInt8) : Nat × List UInt8 := spl n.length ms n 0

/-- Where labels begin, from p on, ahead of e. -/
def sts : Nat → List UInt8 → Nat → Nat → List Nat
  | 0, _, _, _ => []
  | f + 1, n, p, e => if p < e then p :: sts f n (p + 1 + (n.getD p 0).toNat) e else []
/-- The rests of a name that is written at b. -/
def mkM (b : Nat) (n : List UInt8) (qs : List Nat) : Marks := qs.map fun q => (n.drop q, b + q)
def newM (b : Nat) (n : List UInt8) (e : Nat) : Marks := mkM b n (sts n.length n 0 e)

/-- A name is written: all bytes, all rests. -/
def outW (B : List UInt8) (ms : Marks) (n : List UInt8) : List UInt8 := B ++ (n.take (splN ms n).1 ++ (splN ms n).2)
def marW (B : List UInt8) (ms : Marks) (n : List UInt8) : Marks := ms ++ newM B.length n (splN ms n).1
/-- How many bytes a name takes. -/
def sizW (ms : Marks) (n : List UInt8) : Nat := (splN ms n).1 + (splN ms n).2.length

/-- From p on a name goes on. -/
def NAt (n : List UInt8) (p : Nat) : Prop := (nmS 0 (n.drop p)).isSome = true

theorem nat_start {n : List UInt8} (h : isName n = true) : NAt n 0 := (name_some h).2
theorem nat_lt {n : List UInt8} {p : Nat} (h : NAt n p) : p < n.length := by
  have := nmS_cut h
  rw [List.length_drop] at this
  omega
theorem nat_zero {n : List UInt8} {p : Nat} (h : NAt n p) (hp : p < n.length) (h0 : n[p].toNat = 0) : p + 1 = n.length := by
  unfold NAt at h
  rw [drop_at n p hp, nmS, if_pos h0] at h
  split at h
  · rename_i e; rw [List.length_drop] at e; omega
  · simp at h
theorem nat_step {n : List UInt8} {p : Nat} (h : NAt n p) (hp : p < n.length) (h0 : n[p].toNat ≠ 0) : n[p].toNat ≤ 63 ∧ p + 1 + n[p].toNat < n.length ∧ NAt n (p + 1 + n[p].toNat) := by
  unfold NAt at h
  rw [drop_at n p hp] at h
  obtain ⟨h1, h2, h3⟩ := nmS_label h h0
  rw [List.length_drop] at h2
  rw [List.drop_drop] at h3
  exact ⟨h1, by omega, h3⟩
theorem nat_root {n : List UInt8} {p : Nat} (h : NAt n p) (hp : p < n.length) (h0 : n[p].toNat = 0) : n.drop p = [0] := by
  have := nat_zero h hp h0
  rw [drop_at n p hp, List.drop_of_length_le (by omega), show n[p] = 0 from UInt8.toNat_inj.1 (by simpa using h0)]
theorem nat_not_root {n : List UInt8} {p : Nat} (hp : p < n.length) (h0 : n[p].toNat ≠ 0) : n.drop p ≠ [0] := by
  rw [drop_at n p hp]
  intro e
  have := (List.cons.inj e).1
  rw [this] at h0
  exact h0 rfl
theorem nat_name {n : List UInt8} {p : Nat} (h : NAt n p) (hn : n.length ≤ 255) : isName (n.drop p) = true := by
  unfold isName nm
  rw [if_neg (by rw [List.length_drop]; omega)]
  exact h

theorem spl_ge : ∀ (f : Nat) (ms : Marks) (n : List UInt8) (p : Nat), p ≤ (spl f ms n p).1 := by
  intro f
  induction f with
  | zero => intros; exact Nat.le_refl _
  | succ f ih =>
    intro ms n p
    rw [spl]
    split
    · exact Nat.le_refl _
    · split
      · exact Nat.le_refl _
      · have := ih ms n (p + 1 + (n.getD p 0).toNat); omega
theorem sts_end (f : Nat) (n : List UInt8) {p e : Nat} (h : e ≤ p) : sts f n p e = [] := by
  cases f with
  | zero => rfl
  | succ f => rw [sts, if_neg (by omega)]

/-- The writing of a name stands at p, will end as R says, and labels were written out that begin at 'done'. -/
def WAt (ms : Marks) (n : List UInt8) (p : Nat) (R : Nat × List UInt8) (done : List Nat) : Prop :=
  NAt n p ∧ ∃ f, n.length ≤ f + p ∧ spl f ms n p = R ∧ sts n.length n 0 R.1 = done ++ sts f n p R.1

theorem w_start {n : List UInt8} (h : isName n = true) (ms : Marks) : WAt ms n 0 (splN ms n) [] := ⟨nat_start h, n.length, by omega, rfl, rfl⟩
section
variable {ms : Marks} {n : List UInt8} {p : Nat} {R : Nat × List UInt8} {done : List Nat}
theorem WAt.open (h : WAt ms n p R done) : ∃ f, n.length ≤ f + 1 + p ∧ spl (f + 1) ms n p = R ∧ sts n.length n 0 R.1 = done ++ sts (f + 1) n p R.1 := by
  obtain ⟨h0, f, hf, h1, h2⟩ := h
  have := nat_lt h0
  match f, hf, h1, h2 with
  | 0, hf, _, _ => omega
  | f + 1, hf, h1, h2 => exact ⟨f, by omega, h1, h2⟩
theorem w_zero (h : WAt ms n p R done) (hp : p < n.length) (h0 : n[p].toNat = 0) : R = (p, [0]) ∧ sts n.length n 0 p = done := by
  obtain ⟨f, hf, h1, h2⟩ := h.open
  rw [spl, getD_get hp, if_pos h0] at h1
  subst h1
  rw [sts_end _ _ (Nat.le_refl _), List.append_nil] at h2
  exact ⟨rfl, h2⟩
theorem w_hit (h : WAt ms n p R done) (hp : p < n.length) (h0 : n[p].toNat ≠ 0) {q : Nat} (hq : plc ms (n.drop p) = some q) : R = (p, ptrB q) ∧ sts n.length n 0 p = done := by
  obtain ⟨f, hf, h1, h2⟩ := h.open
  rw [spl, getD_get hp, if_neg h0, hq] at h1
  simp only at h1
  subst h1
  rw [sts_end _ _ (Nat.le_refl _), List.append_nil] at h2
  exact ⟨rfl, h2⟩
theorem w_miss (h : WAt ms n p R done) (hp : p < n.length) (h0 : n[p].toNat ≠ 0) (hq : plc ms (n.drop p) = none) : WAt ms n (p + 1 + n[p].toNat) R (done ++ [p]) ∧ p < R.1 := by
  have hn := h.1
  obtain ⟨f, hf, h1, h2⟩ := h.open
  rw [spl, getD_get hp, if_neg h0, hq] at h1
  simp only at h1
  have hge := spl_ge f ms n (p + 1 + n[p].toNat)
  rw [h1] at hge
  rw [sts, if_pos (by omega), getD_get hp] at h2
  exact ⟨⟨(nat_step hn hp h0).2.2, f, by omega, h1, by rw [h2]; simp⟩, by omega⟩
end

/-- The labels' places ahead of e are gone through up to p. -/
def KAt (n : List UInt8) (e p : Nat) (done : List Nat) : Prop := ∃ f, n.length ≤ f + p ∧ sts n.length n 0 e = done ++ sts f n p e
theorem k_start (n : List UInt8) (e : Nat) : KAt n e 0 [] := ⟨n.length, by omega, rfl⟩
theorem k_step {n : List UInt8} {e p : Nat} {done : List Nat} (h : KAt n e p done) (hp : p < n.length) (he : p < e) : KAt n e (p + 1 + n[p].toNat) (done ++ [p]) := by
  obtain ⟨f, hf, h⟩ := h
  match f, hf, h with
  | 0, hf, _ => omega
  | f + 1, hf, h =>
    rw [sts, if_pos he, getD_get hp] at h
    exact ⟨f, by omega, by rw [h]; simp⟩
theorem k_end {n : List UInt8} {e p : Nat} {done : List Nat} (h : KAt n e p done) (he : e ≤ p) : sts n.length n 0 e = done := by
  obtain ⟨f, hf, h⟩ := h
  rw [sts_end _ _ he, List.append_nil] at h
  exact h

/-- What is known of the place at which the labels that are written out end. -/
theorem spl_facts : ∀ (f : Nat) (ms : Marks) (n : List UInt8) (p : Nat), n.length ≤ f + p → NAt n p →
    (spl f ms n p).1 + (spl f ms n p).2.length ≤ n.length ∧ NAt n (spl f ms n p).1 ∧ (∀ q ∈ sts f n p (spl f ms n p).1, plc ms (n.drop q) = none ∧ q < (spl f ms n p).1 ∧ p ≤ q ∧ NAt n q ∧ (n.getD q 0).toNat ≠ 0) ∧
    ((∃ h : (spl f ms n p).1 < n.length, n[(spl f ms n p).1].toNat = 0 ∧ (spl f ms n p).2 = [0]) ∨ ∃ q, plc ms (n.drop (spl f ms n p).1) = some q ∧ (spl f ms n p).2 = ptrB q) := by
  intro f
  induction f with
  | zero => intro ms n p hf hn; have := nat_lt hn; omega
  | succ f ih =>
    intro ms n p hf hn
    have hp := nat_lt hn
    rw [spl, getD_get hp]
    by_cases h0 : n[p].toNat = 0
    · rw [if_pos h0]
      have := nat_zero hn hp h0
      refine ⟨by simp; omega, hn, ?_, .inl ⟨hp, h0, rfl⟩⟩
      rw [sts_end _ _ (Nat.le_refl _)]
      simp
    · rw [if_neg h0]
      obtain ⟨h1, h2, h3⟩ := nat_step hn hp h0
      cases hq : plc ms (n.drop p) with
      | some q =>
        refine ⟨by simp [ptrB]; omega, hn, ?_, .inr ⟨q, hq, rfl⟩⟩
        rw [sts_end _ _ (Nat.le_refl _)]
        simp
      | none =>
        obtain ⟨a1, a2, a3, a4⟩ := ih ms n (p + 1 + n[p].toNat) (by omega) h3
        refine ⟨a1, a2, ?_, a4⟩
        have hge := spl_ge f ms n (p + 1 + n[p].toNat)
        intro q hq'
        rw [sts, if_pos (by simp only; omega), getD_get hp] at hq'
        rcases List.mem_cons.1 hq' with rfl | hq'
        · exact ⟨hq, by simp only; omega, Nat.le_refl _, hn, by rw [getD_get hp]; exact h0⟩
        · have := a3 q hq'
          exact ⟨this.1, this.2.1, by omega, this.2.2.2⟩

theorem splN_size {n : List UInt8} (h : isName n = true) (ms : Marks) : sizW ms n ≤ n.length := (spl_facts n.length ms n 0 (by omega) (nat_start h)).1
theorem splN_at {n : List UInt8} (h : isName n = true) (ms : Marks) : NAt n (splN ms n).1 := (spl_facts n.length ms n 0 (by omega) (nat_start h)).2.1
theorem splN_miss {n : List UInt8} (h : isName n = true) (ms : Marks) (q : Nat) (hq : q ∈ sts n.length n 0 (splN ms n).1) : plc ms (n.drop q) = none ∧ q < (splN ms n).1 ∧ NAt n q ∧ (n.getD q 0).toNat ≠ 0 := by
  have := (spl_facts n.length ms n 0 (by omega) (nat_start h)).2.2.1 q hq
  exact ⟨this.1, this.2.1, this.2.2.2⟩
theorem splN_end {n : List UInt8} (h : isName n = true) (ms : Marks) : (∃ h : (splN ms n).1 < n.length, n[(splN ms n).1].toNat = 0 ∧ (splN ms n).2 = [0]) ∨ ∃ q, plc ms (n.drop (splN ms n).1) = some q ∧ (splN ms n).2 = ptrB q := (spl_facts n.length ms n 0 (by omega) (nat_start h)).2.2.2

theorem drop_ne {n : List UInt8} {p q : Nat} (hp : p < n.length) (h : q < p) : n.drop q ≠ n.drop p := by
  intro e
  have := congrArg List.length e
  rw [List.length_drop, List.length_drop] at this
  omega
theorem mkM_snoc (b : Nat) (n : List UInt8) (qs : List Nat) (p : Nat) : mkM b n (qs ++ [p]) = mkM b n qs ++ [(n.drop p, b + p)] := by simp [mkM]
/-- One rest more, which is not among the ones ahead of it. -/
theorem plc_snoc (ms : Marks) (r x : List UInt8) (q : Nat) (h : plc ms r = none) : plc (ms ++ [(r, q)]) x = if x = r then some q else plc ms x := by
  rw [plc_app, plc, plc]
  by_cases e : x = r
  · subst e; rw [h]; simp
  · rw [if_neg (fun e' => e e'.symm), if_neg e]; simp
theorem plc_done {n : List UInt8} {b p : Nat} {qs : List Nat} (hp : p < n.length) (h : ∀ q ∈ qs, q < p) : plc (mkM b n qs) (n.drop p) = none := by
  apply plc_none
  intro q hq
  simp only [mkM, List.mem_map, Prod.mk.injEq] at hq
  obtain ⟨a, ha, e, _⟩ := hq
  exact drop_ne hp (h a ha) e

end Go.Proofs.Ytbffnicfibfceaa.Pl

/- What walk, target, pointer and Name of package comp give, for every argument. -/
namespace Go.Proofs.Ytbffnicfibfceaa
open Go.RowKit
open Pl

theorem max_of {n : Nat} (h : n ≤ 140737488355328) : n ≤ maxLen := by unfold maxLen; omega

/-- What is known while labels are gone over, at q. -/
def WkI (l : List UInt8) (p g : Nat) (o : List UInt8) (x : Option Nat) (R : Option (List UInt8 × Nat)) (q : Nat) : Prop :=
  (q < l.length → RAt l q g (o ++ (l.drop p).take (q - p)) x R ∧ Labs (o ++ (l.drop p).take (q - p))) ∧ (l.length ≤ q → R = none)
/-- What walk leaves. -/
def WkP (l : List UInt8) (p g : Nat) (o : List UInt8) (x : Option Nat) (R : Option (List UInt8 × Nat)) (E : Int) (b : Bool) : Prop :=
  (b = false → R = none) ∧ (b = true → ∃ (q : Nat) (h : q < l.length), E = (q : Int) ∧ p ≤ q ∧ RAt l q g (o ++ (l.drop p).take (q - p)) x R ∧ Labs (o ++ (l.drop p).take (q - p)) ∧ o.length + (q - p) ≤ 254 ∧ (l[q].toNat = 0 ∨ 63 < l[q].toNat))

/-- What walk gives. -/
def WkE (l : List UInt8) (p g : Nat) (o : List UInt8) (x : Option Nat) (R : Option (List UInt8 × Nat)) (e : Ending) : Prop :=
  ∃ (E : Int) (b : Bool), e = .returned (.tuple #[.int .i64 E, .bool b]) ∧ WkP l p g o x R E b

theorem wk_start {l : List UInt8} {p g : Nat} {o : List UInt8} {x : Option Nat} {R : Option (List UInt8 × Nat)} (h : RAt l p g o x R) (ho : Labs o) : WkI l p g o x R p := by
  refine ⟨fun _ => ?_, fun hp => r_past h hp⟩
  rw [Nat.sub_self, List.take_zero, List.append_nil]
  exact ⟨h, ho⟩
theorem take_more {l : List UInt8} {p q k : Nat} (h : p ≤ q) : (l.drop p).take (q - p) ++ (l.drop q).take (1 + k) = (l.drop p).take (q + 1 + k - p) := by
  have e : (l.drop p).take ((q - p) + (1 + k)) = (l.drop p).take (q - p) ++ ((l.drop p).drop (q - p)).take (1 + k) := List.take_add
  rw [List.drop_drop, show p + (q - p) = q from by omega] at e
  rw [show q + 1 + k - p = (q - p) + (1 + k) from by omega, e]
theorem wk_len {l o : List UInt8} {p q : Nat} (hq : q ≤ l.length) (hp : p ≤ q) : (o ++ (l.drop p).take (q - p)).length = o.length + (q - p) := by
  rw [List.length_append, List.length_take, List.length_drop]; omega
theorem wk_step {l : List UInt8} {p g : Nat} {o : List UInt8} {x : Option Nat} {R : Option (List UInt8 × Nat)} {q : Nat} (h : WkI l p g o x R q) (hp : p ≤ q) (hq : q < l.length) (h0 : l[q].toNat ≠ 0) (h1 : l[q].toNat ≤ 63) (hl : o.length + (q - p) ≤ 254) : WkI l p g o x R (q + 1 + l[q].toNat) := by
  obtain ⟨hr, hlab⟩ := h.1 hq
  refine ⟨fun hlt => ?_, fun hge => r_cut hr hq h0 h1 hge⟩
  have a := r_lab hr hq h0 h1 (by omega) (by rw [wk_len (by omega) hp]; omega)
  have b := labs_step hlab hq h0 h1 (by omega)
  rw [List.append_assoc, take_more hp] at a b
  exact ⟨a, b⟩
theorem wk_long {l : List UInt8} {p g : Nat} {o : List UInt8} {x : Option Nat} {R : Option (List UInt8 × Nat)} {q : Nat} (h : WkI l p g o x R q) (hp : p ≤ q) (hl : 254 < o.length + (q - p)) : R = none := by
  by_cases hq : q < l.length
  · exact r_long (h.1 hq).1 (by rw [wk_len (by omega) hp]; omega)
  · exact h.2 (by omega)

theorem walk_any (s : ByteArray) (p g : Nat) (o : List UInt8) (x : Option Nat) (R : Option (List UInt8 × Nat)) (m : Int) (w : World) (hs : s.size ≤ 140737488355328) (hm : m = 254 - (o.length : Int)) (ho : o.length ≤ 254) (hr : RAt s.data.toList p g o x R) (hlab : Labs o) :
    Calls Try.prog 58 #[.string s, .int .i64 (p : Int), .int .i64 m] w fun e w' => WkE s.data.toList p g o x R e ∧ w' = w := by
  have hl := data_len s
  obtain ⟨n, hn⟩ : ∃ n, n = o.length := ⟨_, rfl⟩
  have HN : Hid (n = o.length) := hn
  have HST : Hid (WkI s.data.toList p g o x R p) := wk_start hr hlab
  rw [← hn] at ho hm
  subst hm
  clear hr hlab hn
  go_enter Try.func58, Try.ntmps58
  go_wp2
  go_loop [8] (fun i => ∃ q : Nat, p ≤ q ∧ i = .int .i64 (q : Int) ∧ n + (q - p) ≤ 254 ∧ Hid (WkI s.data.toList p g o x R q)) (fun i => s.size + 100 - (intOf i).toNat)
  case atStart => exact ⟨p, Nat.le_refl _, rfl, by omega, HST⟩
  case round =>
    clear HST
    obtain ⟨q, hpq, rfl, hq, HI⟩ := hrel
    by_cases hlt : q < s.size
    · have hlt' : q < s.data.toList.length := by omega
      have hb := UInt8.toNat_lt (s[q])
      by_cases h0 : s[q].toNat = 0
      · have h0' : ((s[q].toNat : Int) != 0) = false := by simp [h0]
        have HR : Hid (WkP s.data.toList p g o x R (q : Int) true) := ⟨fun e => by simp at e, fun _ => ⟨q, hlt', rfl, hpq, (HI.out.1 hlt').1, (HI.out.1 hlt').2, by rw [← HN.out]; exact hq, .inl h0⟩⟩
        clear h0
        go_wp2
        go_ret2
        exact ⟨⟨_, _, rfl, HR.out⟩, rfl⟩
      · have h0' : ((s[q].toNat : Int) != 0) = true := by simpa using h0
        by_cases h1 : s[q].toNat ≤ 63
        · have h1' : ((s[q].toNat : Int) / 64 == 0) = true := by simp; omega
          have HS : Hid (WkI s.data.toList p g o x R (q + 1 + s[q].toNat)) := wk_step HI.out hpq hlt' h0 h1 (by rw [← HN.out]; exact hq)
          by_cases hlong : (254 : Int) - (n : Int) < (q : Int) + (1 + (s[q].toNat : Int)) - (p : Int)
          · have HR : Hid (R = none) := wk_long HS.out (by omega) (by rw [← HN.out]; omega)
            go_wp2
            go_ret2
            exact ⟨⟨_, _, rfl, fun _ => HR.out, fun e => by simp at e⟩, rfl⟩
          · have hlong' : decide ((254 : Int) - (n : Int) < (q : Int) + (1 + (s[q].toNat : Int)) - (p : Int)) = false := by simpa using hlong
            go_wp2
            go_round
            case rel => exact ⟨q + 1 + s[q].toNat, by omega, by go_num, by omega, HS⟩
            case measure => simp [intOf]; omega
        · have h1' : ((s[q].toNat : Int) / 64 == 0) = false := by simp; omega
          have HR : Hid (WkP s.data.toList p g o x R (q : Int) true) := ⟨fun e => by simp at e, fun _ => ⟨q, hlt', rfl, hpq, (HI.out.1 hlt').1, (HI.out.1 hlt').2, by rw [← HN.out]; exact hq, .inr (by show 63 < s[q].toNat; omega)⟩⟩
          go_wp2
          go_ret2
          exact ⟨⟨_, _, rfl, HR.out⟩, rfl⟩
    · have HR : Hid (R = none) := HI.out.2 (by omega)
      have hlt' : decide (q < s.size) = false := by simpa using hlt
      go_wp2
      go_ret2
      exact ⟨⟨_, _, rfl, fun _ => HR.out, fun e => by simp at e⟩, rfl⟩

theorem ptr_two (a b : UInt8) : bits .and .u16 (two a b) 16383 = (((a.toNat * 256 + b.toNat) % 16384 : Nat) : Int) := by
  have ha := a.toNat_lt
  have hb := b.toNat_lt
  have wr : ∀ n : Int, 0 ≤ n → n < 2 ^ 16 → IntKind.u16.wrap n = n := fun n h0 h1 => by
    have : IntKind.u16.wrap n = n % 65536 := by simp [IntKind.wrap, IntKind.bits, IntKind.signed]
    rw [this]; omega
  have h := bits_mask .u16 16 (by decide) wr 14 (by decide) (two a b) (two_lt a b).1 (by have := (two_lt a b).2; omega)
  have h2 : bits .and .u16 (two a b) 16383 = two a b % 16384 := by simpa using h
  rw [h2]
  unfold two
  omega
theorem ptr_at (s : ByteArray) (q : Nat) (h : q + 2 ≤ s.size) : ptrAt s.data.toList q = (s[q].toNat * 256 + s[q + 1].toNat) % 16384 := by
  unfold ptrAt
  rw [val_getD s q (by omega), val_getD s (q + 1) (by omega)]

theorem target_yes (s : ByteArray) (q : Nat) (w : World) (hs : s.size ≤ 140737488355328) (h : q + 2 ≤ s.size) (h3 : 191 < s[q].toNat) :
    Calls Try.prog 59 #[.string s, .int .i64 (q : Int)] w fun e w' => e = .returned (.tuple #[.int .i64 (ptrAt s.data.toList q : Int), .bool true]) ∧ ∃ m, w' = w.drewN m := by
  have h0 := s[q].toNat_lt
  have h1 := s[q + 1].toNat_lt
  have hor := or8 s[q].toNat s[q + 1].toNat h0 h1
  have hand := ptr_two s[q] s[q + 1]
  rw [← ptr_at s q h] at hand
  have hlt : ptrAt s.data.toList q < 16384 := Nat.mod_lt _ (by decide)
  have ht : 256 * (s[q].toNat : Int) + (s[q + 1].toNat : Int) = two s[q] s[q + 1] := rfl
  rw [ht] at hor
  have i0 := idx s q q rfl (by omega)
  have i1 := idx s (q + 1) ((q : Int) + 1) (by omega) (by omega)
  have t1 : ((s[q].toNat : Int) / 64 != 3) = false := by simp; omega
  have t2 : decide ((s.size : Int) ≤ (q : Int) + 1) = false := by simp; omega
  have w4 : IntKind.i64.wrap ((q : Int) + 1) = (q : Int) + 1 := by rw [IntKind.wrap_i64]; omega
  obtain ⟨T, hT⟩ : ∃ T, T = ptrAt s.data.toList q := ⟨_, rfl⟩
  rw [← hT] at hand hlt ⊢
  clear hT
  obtain ⟨y, hy⟩ : ∃ y, y = two s[q] s[q + 1] := ⟨_, rfl⟩
  rw [← hy] at hor hand
  clear hy ht
  go_enter Try.func59, Try.ntmps59
  go_wp2
  go_quiet (fail)
  go_wp2
  go_ret2
  exact ⟨rfl, _, rfl⟩

theorem target_no (s : ByteArray) (q : Nat) (w : World) (hs : s.size ≤ 140737488355328) (hq : q < s.size) (h : s[q].toNat ≤ 191 ∨ s.size < q + 2) :
    Calls Try.prog 59 #[.string s, .int .i64 (q : Int)] w fun e w' => e = .returned (.tuple #[.int .i64 0, .bool false]) ∧ w' = w := by
  have h0 := s[q].toNat_lt
  have i0 := idx s q q rfl (by omega)
  by_cases h3 : s[q].toNat ≤ 191
  · have t1 : ((s[q].toNat : Int) / 64 != 3) = true := by simp; omega
    clear h
    go_enter Try.func59, Try.ntmps59
    go_wp2
    go_ret2
    exact ⟨rfl, rfl⟩
  · have t1 : ((s[q].toNat : Int) / 64 != 3) = false := by simp; omega
    have t2 : (s.size : Int) ≤ (q : Int) + 1 := by omega
    clear h
    go_enter Try.func59, Try.ntmps59
    go_wp2
    go_ret2
    exact ⟨rfl, rfl⟩

theorem ptr_bytes (q : Nat) (h : q < 16384) : (ptrB q).map bv = [.int .u8 (((49152 : Int) + (q : Int)) / 256 % 256), .int .u8 (((49152 : Int) + (q : Int)) % 256)] := by
  unfold ptrB bv
  simp only [List.map_cons, List.map_nil]
  have e1 : ((192 + q / 256 : Nat) : Int) = ((49152 : Int) + (q : Int)) / 256 % 256 := by omega
  have e2 : ((q % 256 : Nat) : Int) = ((49152 : Int) + (q : Int)) % 256 := by omega
  rw [toNat_of (by omega), toNat_of (by omega), e1, e2]
end Go.Proofs.Ytbffnicfibfceaa

/- What Name of package comp gives, for every argument. -/
namespace Go.Proofs.Ytbffnicfibfceaa
open Go.RowKit
open Pl

/-- What Name of package comp answers. -/
def nmV : Option (List UInt8 × Nat) → Value
  | none => .tuple #[.string ⟨#[]⟩, .int .i64 0, .int .i64 500]
  | some (r, b) => .tuple #[.string ⟨r.toArray⟩, .int .i64 (b : Int), .int .i64 0]
theorem ret_nm {R R' : Option (List UInt8 × Nat)} {v : Value} (h : R = R') (hv : v = nmV R') : Ending.returned v = .returned (nmV R) := by rw [h, hv]

/-- The five ways behind walk. -/
def Ways (s : ByteArray) (p : Nat) (o : List UInt8) (x : Option Nat) (R : Option (List UInt8 × Nat)) (e : Ending) : Prop :=
  (∃ E, e = .returned (.tuple #[.int .i64 E, .bool false]) ∧ Hid (R = none)) ∨
  (∃ (q : Nat) (_ : q < s.size), e = .returned (.tuple #[.int .i64 (q : Int), .bool true]) ∧ p ≤ q ∧ Hid (o.length + (q - p) ≤ 254) ∧ ((s[q].toNat : Int) == 0) = true ∧ Hid (R = some (o ++ ((s.data.toList.drop p).take (q - p) ++ [0]), x.getD (q + 1)))) ∨
  (∃ (q : Nat) (_ : q < s.size), e = .returned (.tuple #[.int .i64 (q : Int), .bool true]) ∧ p ≤ q ∧ Hid (o.length + (q - p) ≤ 254) ∧ ((s[q].toNat : Int) == 0) = false ∧ Hid (s[q].toNat ≤ 191 ∨ s.size < q + 2) ∧ Hid (R = none)) ∨
  (∃ (q : Nat) (_ : q < s.size) (_ : q + 2 ≤ s.size) (T : Nat), e = .returned (.tuple #[.int .i64 (q : Int), .bool true]) ∧ p ≤ q ∧ Hid (o.length + (q - p) ≤ 254) ∧ ((s[q].toNat : Int) == 0) = false ∧ 191 < s[q].toNat ∧ p ≤ T ∧ Hid (T = ptrAt s.data.toList q) ∧ Hid (R = none)) ∨
  (∃ (q : Nat) (_ : q < s.size) (_ : q + 2 ≤ s.size) (T : Nat), e = .returned (.tuple #[.int .i64 (q : Int), .bool true]) ∧ p ≤ q ∧ Hid (o.length + (q - p) ≤ 254) ∧ ((s[q].toNat : Int) == 0) = false ∧ 191 < s[q].toNat ∧ decide (p ≤ T) = false ∧ Hid (T = ptrAt s.data.toList q) ∧
    Hid (RAt s.data.toList T T (o ++ (s.data.toList.drop p).take (q - p)) (some (x.getD (q + 2))) R) ∧ Hid (Labs (o ++ (s.data.toList.drop p).take (q - p))))

theorem ways {s : ByteArray} {p : Nat} {o : List UInt8} {x : Option Nat} {R : Option (List UInt8 × Nat)} {e : Ending} (h : WkE s.data.toList p p o x R e) : Ways s p o x R e := by
  obtain ⟨E, b, rfl, h1, h2⟩ := h
  cases b with
  | false => exact .inl ⟨E, rfl, h1 rfl⟩
  | true =>
    obtain ⟨q, hq, rfl, hp, hr, hlab, hl, hk⟩ := h2 rfl
    have hqs : q < s.size := by rw [← data_len]; exact hq
    have hlen : (o ++ (s.data.toList.drop p).take (q - p)).length = o.length + (q - p) := wk_len (by omega) hp
    have hg : s.data.toList[q] = s[q] := rfl
    rw [hg] at hk
    by_cases h0 : s[q].toNat = 0
    · exact .inr (.inl ⟨q, hqs, rfl, hp, hl, by simp [h0], by unfold Hid; rw [← List.append_assoc]; exact r_zero hr hq h0 (by omega)⟩)
    · have h0' : ((s[q].toNat : Int) == 0) = false := by simpa using h0
      by_cases h1 : s[q].toNat ≤ 191
      · exact .inr (.inr (.inl ⟨q, hqs, rfl, hp, hl, h0', .inl h1, r_bad hr hq (by rw [hg]; omega) h1⟩))
      · by_cases h2 : q + 2 ≤ s.size
        · by_cases h3 : ptrAt s.data.toList q < p
          · exact .inr (.inr (.inr (.inr ⟨q, hqs, h2, _, rfl, hp, hl, h0', by omega, by simp; omega, rfl, r_ptr hr hq (by rw [hg]; omega) (by rw [data_len]; exact h2) h3, hlab⟩)))
          · exact .inr (.inr (.inr (.inl ⟨q, hqs, h2, _, rfl, hp, hl, h0', by omega, by omega, rfl, r_ptr_no hr hq (by rw [hg]; omega) (.inr (by omega))⟩)))
        · exact .inr (.inr (.inl ⟨q, hqs, rfl, hp, hl, h0', .inr (by omega), r_ptr_no hr hq (by rw [hg]; omega) (.inl (by rw [data_len]; omega))⟩))

theorem row_form {w : World} {base e n : Nat} {v : Value} {xs : List Value} (h : w.ownsRow base e 1 v n xs) (hv : ¬ v = .slice none 0 0) : ∃ g cap, v = .slice (some ⟨g, 0, none⟩) n cap := by
  rcases h.2 with ⟨h1, _⟩ | ⟨g, cap, cur, h1, _⟩
  · exact absurd h1 hv
  · exact ⟨g, cap, h1⟩
theorem own_drew {w w' : World} {base e z n : Nat} {v : Value} {xs : List Value} (h : w.ownsRow base e z v n xs) (hd : ∃ m, w' = w.drewN m) : w'.ownsRow base e z v n xs := by
  obtain ⟨m, rfl⟩ := hd; exact h
theorem str_ext (s : ByteArray) (i j : Nat) : Lib.strCells (s.extract i j) = ((s.data.toList.drop i).take (j - i)).map bv := by
  show (s.extract i j).data.toList.map bv = _
  rw [ext_list]
theorem ext_size (s : ByteArray) (p q : Nat) (hp : p ≤ q) (hq : q ≤ s.size) : (s.extract p q).size = q - p := by simp; omega
theorem cut_both (s : ByteArray) (i j : Nat) (h : i ≤ j) (hj : j ≤ s.size) (u : World) : (Instr.slice 9 (.string s) (some (.int .i64 (i : Int))) (some (.int .i64 (j : Int))) none).run Try.prog u = .ok (.string (s.extract i j)) u := by
  have := run_slice_string (P := Try.prog) u 9 s .i64 .i64 (i : Int) (j : Int) Try.underlying9 (by omega) (by omega) (by omega)
  rw [this]; rfl

set_option maxRecDepth 20000 in
set_option maxHeartbeats 1000000 in
theorem cName_any (s : ByteArray) (p : Nat) (w : World) (hs : s.size ≤ 140737488355328) :
    Calls Try.prog 53 #[.string s, .int .i64 (p : Int)] w fun e w' => e = .returned (nmV (nameOf s.data.toList p)) ∧ Below w.heap.size w w' := by
  obtain ⟨i0, hi, hz0, hz1, hz2⟩ := info_parts info5
  have HST : Hid (RAt s.data.toList p p [] none (nameOf s.data.toList p)) := r_start _ _
  obtain ⟨R, hR⟩ : ∃ R, R = nameOf s.data.toList p := ⟨_, rfl⟩
  rw [← hR] at HST ⊢
  clear hR
  have hb : Below w.heap.size w w := Below.refl _ _
  go_enter Try.func53, Try.ntmps53
  go_wp2_with (at_make; refine wpList_make_own _ rfl _ _ 81 rfl w.heap.size 5 i0 (.int .u8 0) 1 Try.underlying81 hi hz0 hz1 .i64 .i64 _ 255 rfl rfl rfl (by rw [hz2]; omega) (by unfold maxLen; omega) hb.size ?_; intro w2 hown hgrow; replace hb := next hb (below_of hgrow); clear hgrow)
  go_loopw [7, 8, 9] (fun v st be wr => ∃ (g cap n p b : Nat) (o : List UInt8) (x : Option Nat), v = .slice (some ⟨g, 0, none⟩) n cap ∧ st = .int .i64 (p : Int) ∧ be = .int .i64 (b : Int) ∧ n ≤ 254 ∧ b ≤ 140737488355330 ∧ Hid (n = o.length) ∧ Hid (b = x.getD 0) ∧ Hid (∀ y, x = some y → 0 < y) ∧ Hid (RAt s.data.toList p p o x R) ∧ Hid (Labs o) ∧ wr.ownsRow w.heap.size 5 1 v n (o.map bv) ∧ Below w.heap.size w wr) (fun _ st _ _ => (intOf st).toNat)
  case atStart => exact ⟨_, _, 0, p, 0, [], none, rfl, rfl, rfl, by decide, by decide, rfl, rfl, fun y hy => by simp at hy, HST, labs_nil, hown, hb⟩
  case round =>
    clear hown hb HST
    obtain ⟨g, cap, n, p, b, o, x, rfl, rfl, rfl, hn, hb47, HN, HB, HX, HR, HL, hown, hb⟩ := hrel
    have hwk := fun u => walk_any s p p o x R (254 - (n : Int)) u hs (by rw [HN.out]) (by rw [← HN.out]; exact hn) HR.out HL.out
    have HWK : Hid (∀ u, Calls Try.prog 58 #[.string s, .int .i64 (p : Int), .int .i64 (254 - (n : Int))] u fun e w' => WkE s.data.toList p p o x R e ∧ w' = u) := hwk
    clear hwk HR
    have hxb : (x = none ∧ ((b : Int) == 0) = true) ∨ (x = some b ∧ ((b : Int) == 0) = false) := by
      cases x with
      | none => exact .inl ⟨rfl, by have := HB.out; simp at this ⊢; exact this⟩
      | some y => have e : b = y := HB.out; have := HX.out y rfl; exact .inr ⟨by rw [e], by simp; omega⟩
    clear HB HX
    rcases hxb with ⟨rfl, hbz⟩ | ⟨rfl, hbz⟩
    all_goals
      go_wp2_with (first
        | (go_at_call 58; go_must (refine (HWK.out _).mono ?_); rintro e w' ⟨hwk, hw⟩; obtain rfl := hw.symm; rcases ways hwk with ⟨E, rfl, HR⟩ | ⟨q, hq, rfl, hpq, HLQ, h0, HR⟩ | ⟨q, hq, rfl, hpq, HLQ, h0, HNO, HR⟩ | ⟨q, hq, hq2, T, rfl, hpq, HLQ, h0, h3, hge, HT, HR⟩ | ⟨q, hq, hq2, T, rfl, hpq, HLQ, h0, h3, hge, HT, HR, HL2⟩ <;> clear hwk)
        | (at_builtin; have _t := HL; refine Lib.wpList_append_own_string _ rfl (.tmp 28) (.tmp 32) 81 9 rfl w.heap.size 5 i0 Try.underlying81 Try.underlying9 hi hz0 hz1 hz2 (.slice (some ⟨g, 0, none⟩) n cap) n _ rfl hown (s.extract p q) rfl (by rw [ext_size s p q hpq (by omega)]; have := HLQ.out; unfold maxLen; omega) (by rw [ext_size s p q hpq (by omega)]; have := HLQ.out; omega) hb.size ?_; intro v1 w1 own1 grow1 nil1; rw [ext_size s p q hpq (by omega), str_ext] at own1; obtain ⟨g1, cap1, rfl⟩ := row_form own1 (fun e => absurd (nil1.1 e).1 (by simp)); replace hb := hb.grown grow1 hb.size (fun k e => (hown.lt k e).1); have hle : n + (q - p) ≤ 254 := (by rw [HN.out]; exact HLQ.out); clear HL hown grow1 nil1 HLQ)
        | (at_builtin; refine Lib.wpList_append_own_string _ rfl (.tmp 42) (.const (.string ⟨#[0]⟩)) 81 9 rfl w.heap.size 5 i0 Try.underlying81 Try.underlying9 hi hz0 hz1 hz2 _ (n + (q - p)) _ rfl own1 ⟨#[0]⟩ rfl (by unfold maxLen; show n + (q - p) + 1 ≤ _; omega) (by show n + (q - p) + 1 ≤ _; omega) hb.size ?_; intro v2 w2 own2 grow2 nil2; replace hb := hb.grown grow2 hb.size (fun k e => (own1.lt k e).1); have own3 : w2.ownsRow w.heap.size 5 1 v2 (n + (q - p) + 1) ((o ++ ((s.data.toList.drop p).take (q - p) ++ [0])).map bv) := (by rw [← List.append_assoc, List.map_append, List.map_append]; exact own2); clear own1 own2 grow2 nil2)
        | (refine wpList_string _ rfl (.tmp 43) rfl w.heap.size (n + (q - p) + 1) _ _ rfl own3 ?_)
        | (go_at_call 59; go_must (first | refine (target_no s q _ hs hq HNO.out).mono ?_ | refine (target_yes s q _ hs hq2 h3).mono ?_); first | (rintro e w2 ⟨rfl, hw⟩; obtain rfl := hw.symm) | (rw [← HT.out]; rintro e w2 ⟨rfl, hw⟩; replace own1 := own_drew own1 hw; replace hb := next hb (below_drew hw); clear hw)))
      · go_ret3
        exact ⟨ret_nm HR.out rfl, hb⟩
      · go_ret3
        exact ⟨ret_nm HR.out rfl, hb⟩
      · go_ret3
        exact ⟨ret_nm HR.out rfl, hb⟩
      · go_ret3
        exact ⟨ret_nm HR.out rfl, hb⟩
      · go_roundw
        case rel =>
          first
          | exact ⟨g1, cap1, n + (q - p), T, q + 2, _, some (q + 2), rfl, rfl, by go_num, hle, by omega, by unfold Hid; rw [wk_len (by rw [data_len]; omega) hpq, HN.out], by unfold Hid; rfl, fun y hy => by simp at hy; omega, HR, HL2, by rw [List.map_append]; exact own1, hb⟩
          | exact ⟨g1, cap1, n + (q - p), T, b, _, some b, rfl, rfl, rfl, hle, hb47, by unfold Hid; rw [wk_len (by rw [data_len]; omega) hpq, HN.out], by unfold Hid; rfl, fun y hy => by simp at hy hbz; omega, HR, HL2, by rw [List.map_append]; exact own1, hb⟩
        case measure => simp [intOf]; simp at hge; omega

theorem cName_neg (s : ByteArray) (p : Int) (w : World) (h : p < 0) :
    Calls Try.prog 53 #[.string s, .int .i64 p] w fun e w' => e = .returned (nmV none) ∧ Below w.heap.size w w' := by
  go_enter Try.func53, Try.ntmps53
  go_wp2
  go_ret3
  exact ⟨rfl, Below.refl _ _⟩

end Go.Proofs.Ytbffnicfibfceaa

/- What names, whole and Data of package comp give, for every argument. -/
namespace Go.Proofs.Ytbffnicfibfceaa
open Go.RowKit
open Pl

/-- What names of package comp answers. -/
def nsV (E : Int) : Option (List UInt8 × Nat) → Value
  | none => .tuple #[.string ⟨#[]⟩, .bool false]
  | some (t, b) => .tuple #[.string ⟨t.toArray⟩, .bool ((b : Int) == E)]
theorem ret_ns {E : Int} {R R' : Option (List UInt8 × Nat)} {v : Value} (h : R = R') (hv : v = nsV E R') : Ending.returned v = .returned (nsV E R) := by rw [h, hv]

theorem cName_as (s : ByteArray) (p : Nat) (R : Option (List UInt8 × Nat)) (w : World) (hs : s.size ≤ 140737488355328) (h : nameOf s.data.toList p = R) :
    Calls Try.prog 53 #[.string s, .int .i64 (p : Int)] w fun e w' => e = .returned (nmV R) ∧ Below w.heap.size w w' := by rw [← h]; exact cName_any s p w hs

theorem toArr_size (l : List UInt8) : (⟨l.toArray⟩ : ByteArray).size = l.length := by simp [ByteArray.size]

set_option maxRecDepth 20000 in
theorem names_any (s : ByteArray) (p c : Nat) (E : Int) (w : World) (hs : s.size ≤ 140737488355328) (hc : c ≤ 2) :
    Calls Try.prog 63 #[.string s, .int .i64 (p : Int), .int .i64 E, .int .i64 (c : Int)] w fun e w' => e = .returned (nsV E (namesOf s.data.toList p c)) ∧ Below w.heap.size w w' := by
  obtain ⟨R, hR⟩ : ∃ R, R = namesOf s.data.toList p c := ⟨_, rfl⟩
  have HST : Hid (R = preC [] (namesOf s.data.toList p (c - 0))) := by unfold Hid; rw [preC_nil]; exact hR
  rw [← hR]
  clear hR
  have hb : Below w.heap.size w w := Below.refl _ _
  go_enter Try.func63, Try.ntmps63
  go_wp2
  go_loopw [1, 10, 15] (fun a o i wr => ∃ (k P : Nat) (O : ByteArray), k ≤ c ∧ a = .int .i64 (P : Int) ∧ o = .string O ∧ i = .int .i64 (k : Int) ∧ O.size ≤ 255 * k ∧ Hid (R = preC O.data.toList (namesOf s.data.toList P (c - k))) ∧ Below w.heap.size w wr) (fun _ _ i _ => c - (intOf i).toNat)
  case atStart => exact ⟨0, p, ⟨#[]⟩, Nat.zero_le _, rfl, rfl, rfl, by decide, HST, hb⟩
  case round =>
    clear hb HST
    obtain ⟨k, P, O, hk, rfl, rfl, rfl, hO, HR, hb⟩ := hrel
    by_cases hkc : k < c
    · have hstep : c - k = (c - (k + 1)) + 1 := by omega
      cases hn : nameOf s.data.toList P with
      | none =>
        have HN : Hid (R = none) := by unfold Hid; rw [HR.out, hstep]; exact pre_none hn
        have HNM : Hid (nameOf s.data.toList P = none) := hn
        clear hn hstep
        go_wp2_with (go_at_call 53; go_must (refine (cName_as s P none _ hs HNM.out).mono ?_); rintro e w1 ⟨rfl, b1⟩; unfold nmV; replace hb := next hb b1; clear b1)
        go_ret2
        exact ⟨ret_ns HN.out rfl, hb⟩
      | some rb =>
        obtain ⟨r, b⟩ := rb
        have hr := nameOf_some hn
        have hr255 := (name_some hr.1).1
        have HN : Hid (R = preC (O ++ ⟨r.toArray⟩).data.toList (namesOf s.data.toList b (c - (k + 1)))) := by
          unfold Hid; rw [HR.out, hstep, pre_some hn, app_list]
        have HNM : Hid (nameOf s.data.toList P = some (r, b)) := hn
        have hrs : (⟨r.toArray⟩ : ByteArray).size ≤ 255 := by rw [toArr_size]; exact hr255
        clear hn hr hr255 hstep
        obtain ⟨rr, hrr⟩ : ∃ rr : ByteArray, rr = ⟨r.toArray⟩ := ⟨_, rfl⟩
        have hcall := fun u => cName_as s P (some (r, b)) u hs HNM.out
        unfold nmV at hcall
        rw [← hrr] at HN hrs
        simp only [← hrr] at hcall
        clear hrr
        go_wp2_with (go_at_call 53; go_must (refine (hcall _).mono ?_); rintro e w1 ⟨rfl, b1⟩; replace hb := next hb b1; clear b1)
        go_roundw
        case rel => exact ⟨k + 1, b, O ++ rr, by omega, rfl, rfl, by go_num, by rw [ByteArray.size_append]; omega, HN, hb⟩
        case measure => simp [intOf]; omega
    · have e : c - k = 0 := by omega
      have HN : Hid (R = some (O.data.toList, P)) := by unfold Hid; rw [HR.out, e, namesOf, preC, List.append_nil]
      have hkc' : decide (k < c) = false := by simpa using hkc
      clear e
      go_wp2
      go_ret2
      exact ⟨ret_ns HN.out rfl, hb⟩

theorem names_as (s : ByteArray) (p c : Nat) (P E C : Int) (R : Option (List UInt8 × Nat)) (w : World) (hs : s.size ≤ 140737488355328) (hc : c ≤ 2) (hP : P = (p : Int)) (hC : C = (c : Int)) (h : namesOf s.data.toList p c = R) :
    Calls Try.prog 63 #[.string s, .int .i64 P, .int .i64 E, .int .i64 C] w fun e w' => e = .returned (nsV E R) ∧ Below w.heap.size w w' := by
  subst hP; subst hC; rw [← h]; exact names_any s p c E w hs hc

/-- What whole of package comp leaves. -/
def WhP (t : Int) (R : Option (List UInt8)) (D : ByteArray) (b : Bool) : Prop :=
  D.size ≤ 140737488355328 ∧ (b = false → R = none) ∧ (b = true → R = if mayD t D.data.toList = true then some D.data.toList else none)
/-- What whole of package comp gives. -/
def WhE (t : Int) (R : Option (List UInt8)) (e : Ending) : Prop := ∃ D b, e = .returned (.tuple #[.string D, .bool b]) ∧ WhP t R D b

theorem wh_n {l : List UInt8} {p n : Nat} {t : Int} {R : Option (List UInt8 × Nat)} (h : t = 2 ∨ t = 5 ∨ t = 12) (hR : namesOf l p 1 = R) : WhE t (dataOf l p n t) (.returned (nsV ((p + n : Nat) : Int) R)) := by
  rw [names_one] at hR
  rw [data_n h, hR]
  cases R with
  | none => exact ⟨_, _, rfl, by decide, fun _ => rfl, fun e => by simp at e⟩
  | some z =>
    obtain ⟨r, b⟩ := z
    have hn := (nameOf_some hR).1
    have h255 := (name_some hn).1
    refine ⟨_, _, rfl, by rw [toArr_size]; omega, fun e => ?_, fun e => ?_⟩
    · have e' : b ≠ p + n := by simp at e; omega
      rw [dtN, if_neg e']
    · have e' : b = p + n := by simp at e; omega
      rw [dtN, if_pos e', may_n h, if_pos hn, List.nil_append]
theorem wh_15 {l : List UInt8} {p n : Nat} {R : Option (List UInt8 × Nat)} {D : ByteArray} (hn : 2 ≤ n) (hpn : p + n ≤ l.length) (hR : namesOf l (p + 2) 1 = R) (hl : D.data.toList = (l.drop p).take 2) : ∃ H b, nsV ((p + n : Nat) : Int) R = .tuple #[.string H, .bool b] ∧ H.size ≤ 255 ∧ Hid (WhP 15 (dataOf l p n 15) (D ++ H) b) := by
  rw [names_one] at hR
  rw [data_15, if_neg (by omega), hR]
  have hd2 : D.data.toList.length = 2 := by rw [hl, List.length_take, List.length_drop]; omega
  have hds : D.size = 2 := by rw [← data_len]; exact hd2
  cases R with
  | none => exact ⟨⟨#[]⟩, false, rfl, by decide, by rw [ByteArray.size_append, hds]; decide, fun _ => rfl, fun e => by simp at e⟩
  | some z =>
    obtain ⟨r, b⟩ := z
    have hn := (nameOf_some hR).1
    have h255 := (name_some hn).1
    have hne := name_ne hn
    have hrs := toArr_size r
    refine ⟨_, _, rfl, by rw [hrs]; exact h255, by rw [ByteArray.size_append, hds, hrs]; omega, fun e => ?_, fun e => ?_⟩
    · have e' : b ≠ p + n := by simp at e; omega
      rw [dtN, if_neg e']
    · have e' : b = p + n := by simp at e; omega
      have hm : mayD 15 (D ++ (⟨r.toArray⟩ : ByteArray)).data.toList = true := by
        rw [may_15, app_list, List.length_append]
        have hdr : (D.data.toList ++ (⟨r.toArray⟩ : ByteArray).data.toList).drop 2 = r := by rw [← hd2, List.drop_left]
        rw [hdr, hn, hd2]
        simp; omega
      rw [hm, dtN, if_pos e', if_pos rfl, app_list, hl]
theorem wh_6 {l : List UInt8} {p n : Nat} {E : Int} {R : Option (List UInt8 × Nat)} {D : ByteArray} (hn : 20 ≤ n) (hpn : p + n ≤ l.length) (hE : E = ((p + n - 20 : Nat) : Int)) (hR : namesOf l p 2 = R) (hl : D.data.toList = (l.drop (p + n - 20)).take 20) : ∃ H b, nsV E R = .tuple #[.string H, .bool b] ∧ H.size ≤ 510 ∧ Hid (WhP 6 (dataOf l p n 6) (H ++ D) b) := by
  subst hE
  rw [data_6]
  have hd2 : D.data.toList.length = 20 := by rw [hl, List.length_take, List.length_drop]; omega
  have hds : D.size = 20 := by rw [← data_len]; exact hd2
  have bad : ∀ X : Option (List UInt8), X = none → ∃ H b, nsV ((p + n - 20 : Nat) : Int) none = .tuple #[.string H, .bool b] ∧ H.size ≤ 510 ∧ Hid (WhP 6 X (H ++ D) b) := fun X hX => ⟨⟨#[]⟩, false, rfl, by decide, by rw [ByteArray.size_append, hds]; decide, fun _ => hX, fun e => by simp at e⟩
  cases h1 : nameOf l p with
  | none =>
    have e := pre_none (O := []) (c := 1) h1
    rw [preC_nil] at e
    rw [← hR, e]; exact bad _ rfl
  | some z =>
    obtain ⟨r, b⟩ := z
    have e := pre_some (O := []) (c := 1) h1
    rw [preC_nil, names_one] at e
    rw [← hR, e, dtS]
    cases h2 : nameOf l b with
    | none => exact bad _ rfl
    | some z =>
      obtain ⟨r2, b2⟩ := z
      have n1 := (nameOf_some h1).1
      have n2 := (nameOf_some h2).1
      have l1 := (name_some n1).1
      have l2 := (name_some n2).1
      have hrs := toArr_size (r ++ r2)
      rw [List.length_append] at hrs
      rw [List.nil_append, preC, dtS2]
      refine ⟨⟨(r ++ r2).toArray⟩, _, rfl, by omega, by rw [ByteArray.size_append, hds, hrs]; omega, fun e => ?_, fun e => ?_⟩
      · have e' : ¬ b2 + 20 = p + n := by simp at e; omega
        rw [if_neg e']
      · have e' : b2 + 20 = p + n := by simp at e; omega
        have e2 : b2 = p + n - 20 := by omega
        have hm : mayD 6 ((⟨(r ++ r2).toArray⟩ : ByteArray) ++ D).data.toList = true := by
          rw [may_6, app_list, hl]
          show (soaL (r ++ r2 ++ _)).isSome = true
          rw [List.append_assoc, soa_names n1 n2, ← hl, if_pos hd2]; rfl
        rw [hm, if_pos e', if_pos rfl, app_list, hl, e2]
        show some (r ++ (r2 ++ _)) = some (r ++ r2 ++ _)
        rw [List.append_assoc]

set_option maxRecDepth 20000 in
theorem whole_any5 (s : ByteArray) (p n : Nat) (E t : Int) (w : World) (hs : s.size ≤ 140737488355328) (hpn : p + n ≤ s.size) (hE : E = (p : Int) + (n : Int)) :
    Calls Try.prog 60 #[.string s, .int .i64 (p : Int), .int .i64 E, .int .i64 t] w fun e w' => WhE t (dataOf s.data.toList p n t) e ∧ Below w.heap.size w w' := by
  have hl := data_len s
  have hEn : E = ((p + n : Nat) : Int) := by omega
  have HEN : Hid (E = ((p + n : Nat) : Int)) := hEn
  have hEb : E ≤ 140737488355328 := by omega
  have hEb0 : (p : Int) ≤ E := by omega
  clear hE
  by_cases h1 : t = 2 ∨ t = 5 ∨ t = 12
  · have HW : Hid (WhE t (dataOf s.data.toList p n t) (.returned (nsV E (namesOf s.data.toList p 1)))) := by unfold Hid; rw [hEn]; exact wh_n h1 rfl
    have hcall := fun u => names_any s p 1 E u hs (by decide)
    clear hEn
    rcases h1 with rfl | rfl | rfl
    all_goals
      go_enter Try.func60, Try.ntmps60
      go_wp2_with (go_at_call 63; go_must (refine (hcall _).mono ?_); rintro e w1 ⟨he, b1⟩; subst he; revert HW; cases hR : namesOf s.data.toList p 1 <;> (intro HW; unfold nsV at HW ⊢))
      all_goals
        go_ret2
        exact ⟨HW.out, b1⟩
  · by_cases h2 : t = 15
    · subst h2
      by_cases hn : n < 2
      · have hn' : E - (p : Int) < 2 := by omega
        have HR : Hid (dataOf s.data.toList p n 15 = none) := by unfold Hid; rw [data_15, if_pos hn]
        clear hEn
        go_enter Try.func60, Try.ntmps60
        go_wp2
        go_ret2
        exact ⟨⟨_, _, rfl, by decide, fun _ => HR.out, fun e => by simp at e⟩, Below.refl _ _⟩
      · have hn' : decide (E - (p : Int) < 2) = false := by simp; omega
        obtain ⟨D, hD⟩ : ∃ D, D = s.extract p (p + 2) := ⟨_, rfl⟩
        have hDl : D.data.toList = (s.data.toList.drop p).take 2 := by rw [hD, ext_list, show p + 2 - p = 2 from by omega]
        obtain ⟨H, b, hv, hH, HW⟩ := wh_15 (n := n) (R := namesOf s.data.toList (p + 2) 1) (by omega) (by rw [hl]; exact hpn) rfl hDl
        have hcut := cut_both s p (p + 2) (by omega) (by omega)
        rw [show ((p + 2 : Nat) : Int) = (p : Int) + 2 from by omega, ← hD] at hcut
        have hcall := fun u => names_as s (p + 2) 1 ((p : Int) + 2) E 1 _ u hs (by decide) (by omega) rfl rfl
        rw [← hEn] at hv
        rw [hv] at hcall
        have hDs : D.size = 2 := by rw [← data_len, hDl, List.length_take, List.length_drop]; omega
        clear hEn hv hD hDl
        go_enter Try.func60, Try.ntmps60
        go_wp2_with (go_at_call 63; go_must (refine (hcall _).mono ?_); rintro e w1 ⟨rfl, b1⟩)
        go_ret2
        exact ⟨⟨_, _, rfl, HW.out⟩, b1⟩
    · have h2' : (t == 15) = false := by simpa using h2
      have g1 : (t == 2) = false := by simp; omega
      have g2 : (t == 5) = false := by simp; omega
      have g3 : (t == 12) = false := by simp; omega
      by_cases h3 : t = 6
      · subst h3
        by_cases hn : n < 20
        · have hn' : E - (p : Int) < 20 := by omega
          have HR : Hid (dataOf s.data.toList p n 6 = none) := data_6_short hn
          clear hEn
          go_enter Try.func60, Try.ntmps60
          go_wp2
          go_ret2
          exact ⟨⟨_, _, rfl, by decide, fun _ => HR.out, fun e => by simp at e⟩, Below.refl _ _⟩
        · have hn' : decide (E - (p : Int) < 20) = false := by simp; omega
          obtain ⟨D, hD⟩ : ∃ D, D = s.extract (p + n - 20) (p + n) := ⟨_, rfl⟩
          have hDl : D.data.toList = (s.data.toList.drop (p + n - 20)).take 20 := by rw [hD, ext_list, show p + n - (p + n - 20) = 20 from by omega]
          obtain ⟨H, b, hv, hH, HW⟩ := wh_6 (E := E - 20) (R := namesOf s.data.toList p 2) (by omega) (by rw [hl]; exact hpn) (by omega) rfl hDl
          have hcut := cut_both s (p + n - 20) (p + n) (by omega) (by omega)
          rw [show ((p + n - 20 : Nat) : Int) = E - 20 from by omega, ← hEn, ← hD] at hcut
          have hcall := fun u => names_as s p 2 (p : Int) (E - 20) 2 _ u hs (by decide) rfl rfl rfl
          rw [hv] at hcall
          have hDs : D.size = 20 := by rw [← data_len, hDl, List.length_take, List.length_drop]; omega
          clear hEn hv hD hDl
          go_enter Try.func60, Try.ntmps60
          go_wp2_with (go_at_call 63; go_must (refine (hcall _).mono ?_); rintro e w1 ⟨rfl, b1⟩)
          go_ret2
          exact ⟨⟨_, _, rfl, HW.out⟩, b1⟩
      · have h3' : (t == 6) = false := by simpa using h3
        have hcut := cut_both s p (p + n) (by omega) hpn
        rw [← hEn] at hcut
        obtain ⟨D, hD⟩ : ∃ D, D = s.extract p (p + n) := ⟨_, rfl⟩
        have hDl : D.data.toList = (s.data.toList.drop p).take n := by rw [hD, ext_list, show p + n - p = n from by omega]
        have HW : Hid (WhP t (dataOf s.data.toList p n t) D true) := ⟨by rw [hD, ext_size s p (p + n) (by omega) hpn]; omega, fun e => by simp at e, fun _ => by rw [data_o h1 h2 h3, hDl]⟩
        rw [← hD] at hcut
        clear hEn hD hDl h1 h2 h3
        go_enter Try.func60, Try.ntmps60
        go_wp2
        go_ret2
        exact ⟨⟨_, _, rfl, HW.out⟩, Below.refl _ _⟩

/-- What Data of package comp answers. -/
def dtV : Option (List UInt8) → Value
  | none => .tuple #[.string ⟨#[]⟩, .int .i64 500]
  | some d => .tuple #[.string ⟨d.toArray⟩, .int .i64 0]
theorem ret_dt {R R' : Option (List UInt8)} {v : Value} (h : R = R') (hv : v = dtV R') : Ending.returned v = .returned (dtV R) := by rw [h, hv]

/-- The three ways behind whole. -/
theorem wh_ways {t : Int} {R : Option (List UInt8)} {e : Ending} (h : WhE t R e) :
    (∃ D, e = .returned (.tuple #[.string D, .bool false]) ∧ Hid (R = none)) ∨ (∃ D, e = .returned (.tuple #[.string D, .bool true]) ∧ Hid (D.size ≤ maxLen) ∧ Hid (mayD t D.data.toList = false) ∧ Hid (R = none)) ∨
    (∃ D, e = .returned (.tuple #[.string D, .bool true]) ∧ Hid (D.size ≤ maxLen) ∧ Hid (mayD t D.data.toList = true) ∧ Hid (D.size ≤ 65535) ∧ Hid (R = some D.data.toList)) := by
  obtain ⟨D, b, rfl, h0, h1, h2⟩ := h
  cases b with
  | false => exact .inl ⟨D, rfl, h1 rfl⟩
  | true =>
    have h3 := h2 rfl
    cases hm : mayD t D.data.toList with
    | false => exact .inr (.inl ⟨D, rfl, max_of h0, hm, by rw [h3, hm]; unfold Hid; rfl⟩)
    | true =>
      refine .inr (.inr ⟨D, rfl, max_of h0, hm, ?_, by rw [h3, hm]; unfold Hid; rfl⟩)
      unfold Hid
      apply Classical.byContradiction
      intro hc
      rw [may_long t (by rw [data_len]; omega)] at hm
      simp at hm
theorem may4_at (t : Int) (s : ByteArray) (r : Bool) (w : World) (hs : s.size ≤ maxLen) (h : mayD t s.data.toList = r) :
    Calls Try.prog 61 #[.int .i64 t, .string s] w fun e w' => e = .returned (.bool r) ∧ ∃ m, w' = w.drewN m := by rw [← h]; exact may4_any t s w hs

set_option maxRecDepth 20000 in
theorem cData_any (s : ByteArray) (p n : Nat) (t : Int) (w : World) (hs : s.size ≤ 140737488355328) (hpn : p + n ≤ s.size) :
    Calls Try.prog 55 #[.string s, .int .i64 (p : Int), .int .i64 (n : Int), .int .i64 t] w fun e w' => e = .returned (dtV (dataOf s.data.toList p n t)) ∧ Below w.heap.size w w' := by
  obtain ⟨R, hR⟩ : ∃ R, R = dataOf s.data.toList p n t := ⟨_, rfl⟩
  have hcall := fun u => whole_any5 s p n ((p : Int) + (n : Int)) t u hs hpn rfl
  rw [← hR] at hcall ⊢
  clear hR
  have hb : Below w.heap.size w w := Below.refl _ _
  have t1 : decide ((p : Int) < 0) = false := by simp
  have t2 : decide ((n : Int) < 0) = false := by simp
  have t3 : decide (s.size < p) = false := by simp; omega
  have t4 : decide ((s.size : Int) - (p : Int) < (n : Int)) = false := by simp; omega
  go_enter Try.func55, Try.ntmps55
  go_wp2_with (first
    | (go_at_call 60; go_must (refine (hcall _).mono ?_); rintro e w1 ⟨hw1, b1⟩; replace hb := next hb b1; rcases wh_ways hw1 with ⟨D, rfl, HR⟩ | ⟨D, rfl, HM, HF, HR⟩ | ⟨D, rfl, HM, HT, HS, HR⟩ <;> clear hw1 b1)
    | (go_at_call 61; go_must (first | refine (may4_at t D false _ HM.out HF.out).mono ?_ | refine (may4_at t D true _ HM.out HT.out).mono ?_); rintro e w2 ⟨rfl, b2⟩; replace hb := next hb (below_drew b2); clear b2)
    | (go_at_call 62; go_must (refine (clone_any D _ (by have := HS.out; omega)).mono ?_); rintro e w3 ⟨rfl, b3⟩; replace hb := next hb b3; clear b3))
  · go_ret2
    exact ⟨ret_dt HR.out rfl, hb⟩
  · go_ret2
    exact ⟨ret_dt HR.out rfl, hb⟩
  · go_ret2
    exact ⟨ret_dt HR.out rfl, hb⟩

theorem cData_bad (s : ByteArray) (a b t : Int) (w : World) (hs : s.size ≤ 140737488355328) (h : a < 0 ∨ b < 0 ∨ (s.size : Int) < a + b) :
    Calls Try.prog 55 #[.string s, .int .i64 a, .int .i64 b, .int .i64 t] w fun e w' => e = .returned (dtV none) ∧ Below w.heap.size w w' := by
  by_cases h1 : a < 0
  · go_enter Try.func55, Try.ntmps55
    go_wp2
    go_ret2
    exact ⟨rfl, Below.refl _ _⟩
  · have h1' : decide (a < 0) = false := by simpa using h1
    by_cases h2 : b < 0
    · go_enter Try.func55, Try.ntmps55
      go_wp2
      go_ret2
      exact ⟨rfl, Below.refl _ _⟩
    · have h2' : decide (b < 0) = false := by simpa using h2
      by_cases h3 : (s.size : Int) < a
      · go_enter Try.func55, Try.ntmps55
        go_wp2
        go_ret2
        exact ⟨rfl, Below.refl _ _⟩
      · have h3' : decide ((s.size : Int) < a) = false := by simpa using h3
        have h4 : (s.size : Int) - a < b := by omega
        clear h
        go_enter Try.func55, Try.ntmps55
        go_wp2
        go_ret2
        exact ⟨rfl, Below.refl _ _⟩

end Go.Proofs.Ytbffnicfibfceaa

/- A Writer of package comp as it lies in memory; what New, room, Raw, All and keep give. -/
namespace Go.Proofs.Ytbffnicfibfceaa
open Go.RowKit
open Pl

/-- A block as it was laid. -/
def Blk (w : World) (g : Nat) (C : Array Value) (t : TypeId) : Prop := w.heap[g]? = some (.cells C t (0, 0))
theorem Blk.cell {w : World} {g : Nat} {C : Array Value} {t : TypeId} (h : Blk w g C t) (i : Nat) : w.cell? ⟨g, i, none⟩ = C[i]? := cell_of_row w g i C t _ h
theorem Blk.frozen {w : World} {g : Nat} {C : Array Value} {t : TypeId} (h : Blk w g C t) (i : Nat) : w.frozen? ⟨g, i, none⟩ = false := by
  unfold Blk at h
  simp only [World.frozen?, h]
  simp
theorem Blk.drew {w w' : World} {g : Nat} {C : Array Value} {t : TypeId} (h : Blk w g C t) (hd : ∃ m, w' = w.drewN m) : Blk w' g C t := by
  obtain ⟨m, rfl⟩ := hd; exact h
theorem Blk.lt {w : World} {g : Nat} {C : Array Value} {t : TypeId} (h : Blk w g C t) : g < w.heap.size := (Array.getElem?_eq_some_iff.1 h).1
theorem Blk.below {w w' : World} {g : Nat} {C : Array Value} {t : TypeId} (h : Blk w g C t) (hb : Below w.heap.size w w') : Blk w' g C t := by
  unfold Blk; rw [hb.block g h.lt]; exact h
theorem Blk.alloc {w : World} {g : Nat} {C : Array Value} {t : TypeId} (h : Blk w g C t) (o : Obj) : Blk (w.alloc o) g C t := h.below ((Below.refl _ _).alloc (Nat.le_refl _) o)
theorem Blk.new (w : World) (C : Array Value) (t : TypeId) : Blk (w.alloc (.cells C t)) w.heap.size C t := heap_alloc_new w _
theorem Blk.set {w : World} {g : Nat} {C : Array Value} {t : TypeId} (h : Blk w g C t) (i : Nat) (v : Value) : Blk (w.setCell ⟨g, i, none⟩ v) g (C.setIfInBounds i v) t := heap_setCell_same w g i C t v h
theorem Blk.other {w : World} {g b : Nat} {C : Array Value} {t : TypeId} (h : Blk w g C t) (hb : g ≠ b) (i : Nat) (v : Value) : Blk (w.setCell ⟨b, i, none⟩ v) g C t := by
  unfold Blk; rw [heap_setCell_other w ⟨b, i, none⟩ g v hb]; exact h
theorem Blk.grown {w w' : World} {g : Nat} {C : Array Value} {t : TypeId} {row : Option Nat} (h : Blk w g C t) (hg : w.grownBy w' row) (hne : some g ≠ row) : Blk w' g C t := by
  unfold Blk; rw [hg.block g h.lt hne]; exact h

/-- All that lay in w lies in w' as it lay, but for the blocks of S. -/
structure Turn (S : Nat → Prop) (w w' : World) : Prop where
  os : w'.os = w.os
  tape : w'.tape = w.tape
  output : w'.output = w.output
  size : w.heap.size ≤ w'.heap.size
  block : ∀ k, k < w.heap.size → ¬ S k → w'.heap[k]? = w.heap[k]?
theorem Turn.refl (S : Nat → Prop) (w : World) : Turn S w w := ⟨rfl, rfl, rfl, Nat.le_refl _, fun _ _ _ => rfl⟩
theorem Turn.of_below {S : Nat → Prop} {w w' : World} (h : Below w.heap.size w w') : Turn S w w' := ⟨h.os, h.tape, h.output, h.size, fun k hk _ => h.block k hk⟩
theorem Turn.of_grown {S : Nat → Prop} {w w' : World} {row : Option Nat} (h : w.grownBy w' row) (hr : ∀ k, row = some k → S k) : Turn S w w' :=
  ⟨h.os, h.tape, h.output, h.size, fun k hk hs => h.block k hk (fun e => hs (hr k e.symm))⟩
theorem Turn.of_set {S : Nat → Prop} (w : World) {p : Addr} (hp : S p.block) (v : Value) : Turn S w (w.setCell p v) :=
  ⟨rfl, rfl, rfl, by simp, fun k _ hs => Below.heap_setCell w p v k (fun e => hs (e ▸ hp))⟩
theorem Turn.trans {S S' : Nat → Prop} {a b c : World} (h : Turn S a b) (k : Turn S' b c) (hs : ∀ i, S' i → S i ∨ a.heap.size ≤ i) : Turn S a c :=
  ⟨k.os.trans h.os, k.tape.trans h.tape, k.output.trans h.output, Nat.le_trans h.size k.size, fun i hi hn =>
    (k.block i (Nat.lt_of_lt_of_le hi h.size) (fun e => (hs i e).elim hn (fun g => by omega))).trans (h.block i hi hn)⟩
theorem Turn.below {S : Nat → Prop} {w a b : World} {B : Nat} (hb : Below B w a) (h : Turn S a b) (hB : B ≤ a.heap.size) (hs : ∀ i, S i → B ≤ i) : Below B w b :=
  ⟨h.os.trans hb.os, h.tape.trans hb.tape, h.output.trans hb.output, Nat.le_trans hb.size h.size, fun k hk => (h.block k (by omega) (fun e => by have := hs k e; omega)).trans (hb.block k hk)⟩
theorem Turn.blk {S : Nat → Prop} {w w' : World} {g : Nat} {C : Array Value} {t : TypeId} (h : Turn S w w') (hb : Blk w g C t) (hs : ¬ S g) : Blk w' g C t := by
  unfold Blk; rw [h.block g hb.lt hs]; exact hb
theorem Turn.row {S : Nat → Prop} {w w' : World} {base e z n : Nat} {v : Value} {xs : List Value} (h : Turn S w w') (ho : w.ownsRow base e z v n xs) (hs : ∀ k, v.ownBlock = some k → ¬ S k) : w'.ownsRow base e z v n xs := by
  refine ⟨ho.1, ?_⟩
  rcases ho.2 with h0 | ⟨g, cap, cur, rfl, hb, hg, rest⟩
  · exact .inl h0
  · have hlt := (Array.getElem?_eq_some_iff.1 hg).1
    exact .inr ⟨g, cap, cur, rfl, hb, by rw [h.block g hlt (hs g rfl)]; exact hg, rest⟩

theorem keyL : Go.Maps.Keyed Try.prog 9 := Go.Maps.string_keyed Try.underlying9
theorem zero3 (w : World) : (zeroValue 3).run Try.prog w = .ok (.int .i64 0) w := by kernel_rfl

/-- What a map of rests holds. -/
def MapIs (D : DataW Unit) (ms : Marks) : Prop :=
  ∀ r, (plc ms r = none → Maps.has D (.string r) = false) ∧ ∀ q, plc ms r = some q → Maps.has D (.string r) = true ∧ D.atKey (.string r) (.lit (.int .i64 0)) = .lit (.int .i64 (q : Int))
def MapAt (w : World) (m : Value) (ms : Marks) : Prop :=
  (m = .map none ∧ ms = []) ∨ ∃ b D, m = .map (some b) ∧ w.ownsMap Try.prog 9 (plainElem Try.prog 3) b ms.length D ∧ MapIs D ms
/-- A Writer's blocks. -/
def own (g : Nat) (v m : Value) (k : Nat) : Prop := k = g ∨ v.ownBlock = some k ∨ m = .map (some k)
theorem MapAt.turn {S : Nat → Prop} {w w' : World} {m : Value} {ms : Marks} (h : MapAt w m ms) (ht : Turn S w w') (hs : ∀ k, m = .map (some k) → ¬ S k) : MapAt w' m ms := by
  rcases h with h | ⟨b, D, h1, ⟨es, clock, hb, rest⟩, h2⟩
  · exact .inl h
  · have hlt := (Array.getElem?_eq_some_iff.1 hb).1
    exact .inr ⟨b, D, h1, ⟨es, clock, by rw [ht.block b hlt (hs b h1)]; exact hb, rest⟩, h2⟩
end Go.Proofs.Ytbffnicfibfceaa

/- What Raw, keep, split, keepRests and Name of a Writer of package comp give. -/
namespace Go.Proofs.Ytbffnicfibfceaa
open Go.RowKit
open Pl

/-- A string's bytes are appended to a row of bytes that the call owns; the new row lies where the old one lay, or in a new block. -/
theorem run_appB (w : World) (ty : TypeId) (v : Value) (n : Nat) (xs : List Value) (hown : w.ownsRow 0 5 1 v n xs) (s : ByteArray) (hn : n + s.size ≤ 1000000) :
    ∃ v' w', (Builtin.append_ #[81, 9] ty #[v, .string s]).run Try.prog w = .ok v' w' ∧ w'.ownsRow 0 5 1 v' (n + s.size) (xs ++ Lib.strCells s) ∧ w.grownBy w' v.ownBlock ∧ ∀ k, v'.ownBlock = some k → v.ownBlock = some k ∨ w.heap.size ≤ k := by
  obtain ⟨i0, hi, hz0, hz1, hz2⟩ := info_parts info5
  obtain ⟨v', w', hr, h1, h2, _⟩ := Lib.run_append_own_string (P := Try.prog) w 0 81 9 ty 5 i0 Try.underlying81 Try.underlying9 hi hz0 hz1 hz2 v n xs hown s (by unfold maxLen; omega) (by omega) (Nat.zero_le _)
  refine ⟨v', w', hr, h1, h2, ?_⟩
  rcases hown.2 with ⟨rfl, rfl⟩ | ⟨g, cap, cur, rfl, _, hg, hnc, hcm, hcs, htake⟩
  · by_cases hm : s.size = 0
    · intro k hk
      rcases h1.2 with ⟨e, _⟩ | ⟨g', cap', cur', e, _, hg', _, _, _, ht'⟩
      · rw [e] at hk; simp [Value.ownBlock] at hk
      · exfalso
        have hf := Lib.run_firstCells_string (P := Try.prog) w 1 s
        rw [hm] at hf
        have hr2 : (Builtin.append_ #[81, 9] ty #[.slice none 0 0, .string s]).run Try.prog w = .ok (.slice none 0 0) w := by
          simp [Builtin.append_, run_underlying Try.underlying81, run_underlying Try.underlying9, sizeOf, typeInfo, hi, hz1, Builtin.lenOf, hm, hf]
        rw [hr] at hr2
        have := (Result.ok.inj hr2).1
        rw [e] at this
        simp at this
    · have hr2 := run_append_nil_string (P := Try.prog) w 81 9 ty 5 i0 (.int .u8 0) Try.underlying81 Try.underlying9 hi hz0 s (by omega) (by omega) (by rw [hz2]; omega)
      rw [hr] at hr2
      have e := (Result.ok.inj hr2).1
      intro k hk
      rw [e] at hk
      simp [Value.ownBlock] at hk
      exact .inr (by omega)
  · have hxl : xs.length = n := by simpa using hown.1
    by_cases hroom : n + s.size ≤ cap
    · have hr2 := Lib.run_append_room_string (P := Try.prog) w 81 9 ty 5 i0 Try.underlying81 Try.underlying9 hi hz1 g n cap cur hg s hroom (by omega)
      rw [hr] at hr2
      have e := (Result.ok.inj hr2).1
      intro k hk
      rw [e] at hk
      exact .inl hk
    · have holds : ∀ j u, xs[j]? = some u → w.cell? ((⟨g, 0, none⟩ : Addr).add j) = some u := hown.cells (g := g) rfl
      have hr2 := Lib.run_append_grow_string (P := Try.prog) w 81 9 ty 5 i0 (.int .u8 0) Try.underlying81 Try.underlying9 hi hz0 ⟨g, 0, none⟩ n cap xs (by rw [hz1]; simpa using hxl) holds s (by omega) (by omega) (by rw [hz2]; exact growslice_fits (by omega) (by omega))
      rw [hr] at hr2
      have e := (Result.ok.inj hr2).1
      intro k hk
      rw [e] at hk
      simp [Value.ownBlock] at hk
      exact .inr (by omega)

theorem wp_appB (w : World) {o : Oper} {a : Act} {K : Act → World → Prop} {Q : Exit → Act → World → Prop} (sl x : Operand) (ho : o.op = .call { callee := .builtin .append, args := #[sl, x], argTypes := #[81, 9] })
    (v : Value) (n : Nat) (xs : List Value) (hs : a.eval sl = v) (hown : w.ownsRow 0 5 1 v n xs) (s : ByteArray) (hx : a.eval x = .string s) (hn : n + s.size ≤ 1000000)
    (h : ∀ v' w', w'.ownsRow 0 5 1 v' (n + s.size) (xs ++ Lib.strCells s) → w.grownBy w' v.ownBlock → (∀ k, v'.ownBlock = some k → v.ownBlock = some k ∨ w.heap.size ≤ k) → K (a.put o.dst v') w') : Oper.wp Try.prog o a w K Q := by
  obtain ⟨v', w', hr, h2, h3, h4⟩ := run_appB w o.type v n xs hown s hn
  unfold Oper.wp execOp
  simp only [ho, resolve, invoke, builtin, Sem.run_bind, Sem.run_pure, Result.andThen_ok, List.map_toArray, List.map_cons, List.map_nil, hs, hx, hr]
  exact h v' w' h2 h3 h4
theorem wpList_appB (w : World) {ops : Array Oper} {rest : List Oper} {o : Oper} {a : Act} {Q : Exit → Act → World → Prop} (hgd : o.guard = none) (sl x : Operand) (ho : o.op = .call { callee := .builtin .append, args := #[sl, x], argTypes := #[81, 9] })
    (v : Value) (n : Nat) (xs : List Value) (hs : a.eval sl = v) (hown : w.ownsRow 0 5 1 v n xs) (s : ByteArray) (hx : a.eval x = .string s) (hn : n + s.size ≤ 1000000)
    (h : ∀ v' w', w'.ownsRow 0 5 1 v' (n + s.size) (xs ++ Lib.strCells s) → w.grownBy w' v.ownBlock → (∀ k, v'.ownBlock = some k → v.ownBlock = some k ∨ w.heap.size ≤ k) → wpList Try.prog ops Q rest (a.put o.dst v') w') : wpList Try.prog ops Q (o :: rest) a w :=
  wpList_plain hgd fun _ hK => wp_appB w sl x ho v n xs hs hown s hx hn fun v' w' h1 h2 h3 => hK _ _ (h v' w' h1 h2 h3)
theorem step_appB (w : World) {ops : Array Oper} {o : Oper} {a : Act} {K : Act → World → Prop} {Q : Exit → Act → World → Prop} {E : Prop} (hgd : o.guard = none) (sl x : Operand) (ho : o.op = .call { callee := .builtin .append, args := #[sl, x], argTypes := #[81, 9] })
    (v : Value) (n : Nat) (xs : List Value) (hs : a.eval sl = v) (hown : w.ownsRow 0 5 1 v n xs) (s : ByteArray) (hx : a.eval x = .string s) (hn : n + s.size ≤ 1000000)
    (h : ∀ v' w', w'.ownsRow 0 5 1 v' (n + s.size) (xs ++ Lib.strCells s) → w.grownBy w' v.ownBlock → (∀ k, v'.ownBlock = some k → v.ownBlock = some k ∨ w.heap.size ≤ k) → K (a.put o.dst v') w') :
    if Region.wanted o (yielded ops a.tmps) = true then Oper.wp Try.prog o a w K Q else E := by
  have hw : Region.wanted o (yielded ops a.tmps) = true := by simp [Region.wanted, hgd]
  rw [if_pos hw]
  exact wp_appB w sl x ho v n xs hs hown s hx hn h

theorem row_shape {w : World} {base e z n : Nat} {v : Value} {xs : List Value} (h : w.ownsRow base e z v n xs) : ∃ y c, v = .slice y n c := by
  rcases h.2 with ⟨h1, h2⟩ | ⟨g, cap, cur, h1, _⟩
  · exact ⟨none, 0, by rw [h1, h2]⟩
  · exact ⟨_, _, h1⟩
theorem str_list (s : ByteArray) : Lib.strCells s = s.data.toList.map bv := rfl
theorem set0 (a b c : Value) : (#[a, b] : Array Value).setIfInBounds 0 c = #[c, b] := rfl
theorem set1 (a b c : Value) : (#[a, b] : Array Value).setIfInBounds 1 c = #[a, c] := rfl

/-- What Raw answers, and what it leaves. -/
def rawE (B : List UInt8) (s : ByteArray) : Int := if B.length + s.size ≤ 4096 then 0 else 501
def rawB (B : List UInt8) (s : ByteArray) : List UInt8 := if B.length + s.size ≤ 4096 then B ++ s.data.toList else B

theorem isKey_str (r : List UInt8) : WideAt.IsKeyLit (.string r) := by simp [WideAt.IsKeyLit]
theorem mapIs_put {D : DataW Unit} {ms : Marks} {r : List UInt8} {q : Nat} (hD : Maps.IsMap D) (h : MapIs D ms) (hr : plc ms r = none) : MapIs (D.put (.string r) (.lit (.int .i64 (q : Int)))) (ms ++ [(r, q)]) := by
  intro x
  rw [plc_snoc ms r x q hr]
  by_cases e : x = r
  · subst e
    rw [if_pos rfl]
    refine ⟨fun e => by simp at e, fun q' e => ?_⟩
    simp at e
    subst e
    exact ⟨Maps.has_put_same hD (isKey_str x) _, Maps.atKey_put_same hD (isKey_str x) _ _⟩
  · rw [if_neg e]
    have hne : (Lit.string x) ≠ .string r := fun e' => e (by simpa using e')
    rw [Maps.has_put_other hne, Maps.atKey_put_other hne]
    exact h x
theorem mapIs_nil : MapIs (.map []) [] := fun r => ⟨fun _ => rfl, fun q h => by simp [plc] at h⟩

theorem sts_len : ∀ (f : Nat) (n : List UInt8) (p e : Nat), (sts f n p e).length ≤ e - p := by
  intro f
  induction f with
  | zero => intros; simp [sts]
  | succ f ih =>
    intro n p e
    rw [sts]
    split
    · rw [List.length_cons]; have := ih n (p + 1 + (n.getD p 0).toNat) e; omega
    · simp

theorem MapAt.drewn {w : World} {m : Value} {ms : Marks} (h : MapAt w m ms) (k : Nat) : MapAt (w.drewN k) m ms := h.turn (S := fun _ => False) (Turn.of_below (below_drew ⟨k, rfl⟩)) (fun _ _ => id)

/-- What split gives. -/
def spV (R : Nat × List UInt8) : Value := .tuple #[.int .i64 (R.1 : Int), .string ⟨R.2.toArray⟩]
theorem ret_sp {R R' : Nat × List UInt8} {v : Value} (h : R = R') (hv : v = spV R') : Ending.returned v = .returned (spV R) := by rw [h, hv]

end Go.Proofs.Ytbffnicfibfceaa

/- What Name of a Writer of package comp gives. -/
namespace Go.Proofs.Ytbffnicfibfceaa
open Go.RowKit
open Pl

/-- What Name of a Writer answers, and what it leaves. -/
def namE (B : List UInt8) (ms : Marks) (n : List UInt8) : Int := if isName n = true then (if B.length + sizW ms n ≤ 4096 then 0 else 501) else 500
def namB (B : List UInt8) (ms : Marks) (n : List UInt8) : List UInt8 := if isName n = true ∧ B.length + sizW ms n ≤ 4096 then outW B ms n else B
def namM (B : List UInt8) (ms : Marks) (n : List UInt8) : Marks := if isName n = true ∧ B.length + sizW ms n ≤ 4096 then marW B ms n else ms
theorem nam_no {B : List UInt8} {ms : Marks} {n : List UInt8} (h : isName n = false) : namE B ms n = 500 ∧ namB B ms n = B ∧ namM B ms n = ms := by
  unfold namE namB namM; simp [h]
theorem nam_long {B : List UInt8} {ms : Marks} {n : List UInt8} (h : isName n = true) (h2 : ¬ B.length + sizW ms n ≤ 4096) : namE B ms n = 501 ∧ namB B ms n = B ∧ namM B ms n = ms := by
  unfold namE namB namM; rw [if_pos h, if_neg h2, if_neg (fun e => h2 e.2), if_neg (fun e => h2 e.2)]; exact ⟨rfl, rfl, rfl⟩
theorem nam_yes {B : List UInt8} {ms : Marks} {n : List UInt8} (h : isName n = true) (h2 : B.length + sizW ms n ≤ 4096) : namE B ms n = 0 ∧ namB B ms n = outW B ms n ∧ namM B ms n = marW B ms n := by
  unfold namE namB namM; rw [if_pos h, if_pos h2, if_pos ⟨h, h2⟩, if_pos ⟨h, h2⟩]; exact ⟨rfl, rfl, rfl⟩

/-- What is known of a Writer's bytes and rests. -/
def Fine (B : List UInt8) (ms : Marks) : Prop := B.length ≤ 4096 ∧ ms.length ≤ B.length ∧ ∀ r q, plc ms r = some q → q < B.length
theorem fine_nil : Fine [] [] := ⟨by decide, by decide, fun r q h => by simp [plc] at h⟩
theorem fine_raw {B : List UInt8} {ms : Marks} (h : Fine B ms) (s : ByteArray) : Fine (rawB B s) ms := by
  unfold rawB
  split
  · rename_i hs
    refine ⟨by rw [List.length_append, data_len]; exact hs, by rw [List.length_append]; have := h.2.1; omega, fun r q hq => ?_⟩
    have := h.2.2 r q hq
    rw [List.length_append]; omega
  · exact h
theorem outW_len {B : List UInt8} {ms : Marks} {n : List UInt8} (h : isName n = true) : (outW B ms n).length = B.length + sizW ms n := by
  have h1 := nat_lt (splN_at h ms)
  unfold outW sizW
  rw [List.length_append, List.length_append, List.length_take]
  omega
theorem mark_lt {b : Nat} {n r : List UInt8} {qs : List Nat} {q e : Nat} (h : plc (mkM b n qs) r = some q) (hq : ∀ x ∈ qs, x < e) : q < b + e := by
  have := plc_mem h
  simp only [mkM, List.mem_map, Prod.mk.injEq] at this
  obtain ⟨a, ha, _, rfl⟩ := this
  have := hq a ha
  omega
theorem fine_name {B : List UInt8} {ms : Marks} (h : Fine B ms) (n : List UInt8) : Fine (namB B ms n) (namM B ms n) := by
  cases hn : isName n with
  | false => obtain ⟨_, h2, h3⟩ := nam_no (B := B) (ms := ms) hn; rw [h2, h3]; exact h
  | true =>
    by_cases hf : B.length + sizW ms n ≤ 4096
    · obtain ⟨_, h2, h3⟩ := nam_yes hn hf
      rw [h2, h3]
      have hl := outW_len (B := B) (ms := ms) hn
      have hs : (splN ms n).1 ≤ sizW ms n := by unfold sizW; omega
      refine ⟨by omega, ?_, fun r q hq => ?_⟩
      · have := sts_len n.length n 0 (splN ms n).1
        have := h.2.1
        unfold marW newM mkM
        rw [List.length_append, List.length_map]
        omega
      · unfold marW newM at hq
        rw [plc_app] at hq
        cases hp : plc ms r with
        | some q' =>
          rw [hp] at hq
          have : q' = q := by simpa using hq
          subst this
          have := h.2.2 r q' hp
          omega
        | none =>
          rw [hp] at hq
          have := mark_lt (e := (splN ms n).1) (by simpa using hq) (fun x hx => (splN_miss hn ms x hx).2.1)
          omega
    · obtain ⟨_, h2, h3⟩ := nam_long hn hf
      rw [h2, h3]; exact h

theorem may_yes (s : ByteArray) (w : World) (h : isName s.data.toList = true) : Calls Try.prog 64 #[.string s] w fun e w' => e = .returned (.bool true) ∧ w' = w := may_as s true w (max_of (by have := name_size h; omega)) h

end Go.Proofs.Ytbffnicfibfceaa

/- A Writer that the call itself made; what awake gives: true. -/
namespace Go.Proofs.Ytbffnicfibfceaa
open Go.RowKit
open Pl

def aB1 : List UInt8 := [97, 98]
def aB2 : List UInt8 := [97, 98, 1, 97, 1, 98, 0]
def aM2 : Marks := [([1, 97, 1, 98, 0], 2), ([1, 98, 0], 4)]
def aB3 : List UInt8 := [97, 98, 1, 97, 1, 98, 0, 1, 99, 192, 4]
def aM3 : Marks := [([1, 97, 1, 98, 0], 2), ([1, 98, 0], 4), ([1, 99, 1, 98, 0], 7)]
theorem small {n : Nat} (h : n ≤ 100) : n ≤ maxLen := by unfold maxLen; omega

theorem cData_as (s : ByteArray) (p n : Nat) (t : Int) (R : Option (List UInt8)) (w : World) (hs : s.size ≤ 140737488355328) (hpn : p + n ≤ s.size) (h : dataOf s.data.toList p n t = R) :
    Calls Try.prog 55 #[.string s, .int .i64 (p : Int), .int .i64 (n : Int), .int .i64 t] w fun e w' => e = .returned (dtV R) ∧ Below w.heap.size w w' := by rw [← h]; exact cData_any s p n t w hs hpn

end Go.Proofs.Ytbffnicfibfceaa

/- A region that draws its order and whose calls lay new blocks alone; rows of strings appended to each other. -/
namespace Go.Proofs.Ytbffnicfibfceaa
open Go.RowKit
open Pl

/-- A world in which all that w holds lies as it lay. -/
structure Bel (w : World) where
  to : World
  h : Below w.heap.size w to

/-- A region that draws its order, whose calls lay new blocks alone: one walk, in the order of the text. -/
theorem wp_region_bel {P : Program} {id : Nat} {Q : Exit → Act → World → Prop} {a : Act} {w : World} {l : List Oper} (hm : P.follows .mixedOrders = true) (hB : Region.lexB .any l.toArray = true)
    (h : Nonempty (Bel w) → wpQuiet P l.toArray (fun w' => ∃ n : Bel w, w' = n.to) (fun a' => ∀ w', (∃ n : Bel w, w' = n.to) → Q .normal a' w') l a) : (Code.region id l.toArray true).wp P Q a w :=
  wp_region_quiet (C := fun w' => ∃ n : Bel w, w' = n.to) hm hB ⟨⟨_, below_drew ⟨1, rfl⟩⟩, rfl⟩ (h ⟨⟨w, Below.refl _ _⟩⟩)

theorem bel_lays {P : Program} {f : FuncId} {args : Array Value} {w : World} {n : Bel w} {v : Value}
    (h : Calls P f args n.to fun e w' => e = .returned v ∧ Below n.to.heap.size n.to w') : Calls P f args n.to fun e w'' => e = .returned v ∧ ∃ m : Bel w, w'' = m.to :=
  h.mono fun _ w' ⟨he, hm⟩ => ⟨he, ⟨w', next n.h hm⟩, rfl⟩
theorem bel_out {w w' : World} (h : ∃ n : Bel w, w' = n.to) : Below w.heap.size w w' := by
  obtain ⟨n, rfl⟩ := h
  exact n.h

theorem info9 : (Try.prog.info? 9).map (fun i => (i.zero, i.size, i.bytes)) = some (some (.string ⟨#[]⟩), 1, 16) := by kernel_rfl

/-- A row that the call owns lies in every such world. -/
theorem own_below {w w' : World} {base n : Nat} {v : Value} {xs : List Value} (h : w.ownsRow base 9 1 v n xs) (hb : Below w.heap.size w w') : w'.ownsRow base 9 1 v n xs :=
  h.kept (row := none) ⟨hb.os, hb.tape, hb.output, hb.size, fun k hk _ => hb.block k hk⟩ (by cases v.ownBlock with | none => exact .inl rfl | some k => exact .inr (by simp))


end Go.Proofs.Ytbffnicfibfceaa
