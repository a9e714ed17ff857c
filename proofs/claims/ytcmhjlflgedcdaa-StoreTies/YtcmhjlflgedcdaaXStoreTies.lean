/- StoreTies holds: of entries that end at one tick the first by name and type goes. -/
import Derived.Test.YtcmhjlflgedcdaaXStW
import Derived.ProofKit
import Derived.OpenShut
import Derived.ShutString
namespace Go.Proofs.Ytcmhjlflgedcdaa.storeTies
open Go.ChangeShapes Go.WideShapes Go.ChangeAt Go.RowKit
open Go.ChangeMaps (open_string shut_string)
open Pl

def dX : List ByteArray := [⟨#[120]⟩]
def dY : List ByteArray := [⟨#[121]⟩]
def dZ : List ByteArray := [⟨#[122]⟩]
theorem sX : ∀ d ∈ dX, d.size ≤ 140737488351232 := fun d hd => by unfold dX at hd; simp at hd; subst hd; decide
theorem sY : ∀ d ∈ dY, d.size ≤ 140737488351232 := fun d hd => by unfold dY at hd; simp at hd; subst hd; decide
theorem sZ : ∀ d ∈ dZ, d.size ≤ 140737488351232 := fun d hd => by unfold dZ at hd; simp at hd; subst hd; decide
def first_of (a b : List UInt8) (s t : Int) : Prop := cmpN a b < 0 ∨ cmpN a b = 0 ∧ s < t
def last_of (a b : List UInt8) (s t : Int) : Prop := 0 < cmpN a b ∨ cmpN a b = 0 ∧ t < s
theorem cmp_fd {a b : ByteArray} (ha : isName a.data.toList = true) (hb : isName b.data.toList = true) : cmpN (fdB a).data.toList (fdB b).data.toList = cmpN a.data.toList b.data.toList := by
  rw [fdB_list, fdB_list]
  unfold foldR
  rw [if_pos ha, if_pos hb]
  unfold cmpN
  rw [fl_fold, fl_fold]
theorem fd_same {a b : ByteArray} (ha : isName a.data.toList = true) (hb : isName b.data.toList = true) (h : fdB a = fdB b) : sameB a.data.toList b.data.toList = true := by
  have e := congrArg (fun x : ByteArray => x.data.toList) h
  simp only [fdB_list] at e
  unfold foldR at e
  rw [if_pos ha, if_pos hb] at e
  unfold sameB
  simp [ha, hb, e]
theorem fd_nc : fdB ⟨#[9, 110, 101, 119, 99, 111, 109, 101, 114, 115, 0]⟩ = ⟨#[9, 110, 101, 119, 99, 111, 109, 101, 114, 115, 0]⟩ := by apply bytes_ext; decide
theorem nc_name : isName (⟨#[9, 110, 101, 119, 99, 111, 109, 101, 114, 115, 0]⟩ : ByteArray).data.toList = true := by decide
structure Plain3 (a b : ByteArray) (A B : Int) : Prop where
  e1 : errP ⟨a, 1 + A, 5, dX, 3, 50⟩ 4 = 0
  e2 : errP ⟨b, 1 + B, 5, dY, 3, 50⟩ 4 = 0
  p1 : putP 2 [] ⟨a, 1 + A, 5, dX, 3, 50⟩ 4 = [⟨fdB a, 1 + A, 5, dX, 3, 50⟩]
  p2 : putP 2 [⟨fdB a, 1 + A, 5, dX, 3, 50⟩] ⟨b, 1 + B, 5, dY, 3, 50⟩ 4 = [⟨fdB a, 1 + A, 5, dX, 3, 50⟩, ⟨fdB b, 1 + B, 5, dY, 3, 50⟩]
  p3f : first_of a.data.toList b.data.toList (1 + A) (1 + B) → putP 2 [⟨fdB a, 1 + A, 5, dX, 3, 50⟩, ⟨fdB b, 1 + B, 5, dY, 3, 50⟩] ⟨⟨#[9, 110, 101, 119, 99, 111, 109, 101, 114, 115, 0]⟩, 1, 5, dZ, 1, 20⟩ 5 = [⟨fdB b, 1 + B, 5, dY, 3, 50⟩, ⟨⟨#[9, 110, 101, 119, 99, 111, 109, 101, 114, 115, 0]⟩, 1, 5, dZ, 1, 20⟩]
  p3l : last_of a.data.toList b.data.toList (1 + A) (1 + B) → putP 2 [⟨fdB a, 1 + A, 5, dX, 3, 50⟩, ⟨fdB b, 1 + B, 5, dY, 3, 50⟩] ⟨⟨#[9, 110, 101, 119, 99, 111, 109, 101, 114, 115, 0]⟩, 1, 5, dZ, 1, 20⟩ 5 = [⟨fdB a, 1 + A, 5, dX, 3, 50⟩, ⟨⟨#[9, 110, 101, 119, 99, 111, 109, 101, 114, 115, 0]⟩, 1, 5, dZ, 1, 20⟩]
  gaf : getP [⟨fdB b, 1 + B, 5, dY, 3, 50⟩, ⟨⟨#[9, 110, 101, 119, 99, 111, 109, 101, 114, 115, 0]⟩, 1, 5, dZ, 1, 20⟩] a (1 + A) 6 = none
  gbf : getP [⟨fdB b, 1 + B, 5, dY, 3, 50⟩, ⟨⟨#[9, 110, 101, 119, 99, 111, 109, 101, 114, 115, 0]⟩, 1, 5, dZ, 1, 20⟩] b (1 + B) 6 = some ⟨fdB b, 1 + B, 5, dY, 3, 50⟩
  gal : getP [⟨fdB a, 1 + A, 5, dX, 3, 50⟩, ⟨⟨#[9, 110, 101, 119, 99, 111, 109, 101, 114, 115, 0]⟩, 1, 5, dZ, 1, 20⟩] a (1 + A) 6 = some ⟨fdB a, 1 + A, 5, dX, 3, 50⟩
  gbl : getP [⟨fdB a, 1 + A, 5, dX, 3, 50⟩, ⟨⟨#[9, 110, 101, 119, 99, 111, 109, 101, 114, 115, 0]⟩, 1, 5, dZ, 1, 20⟩] b (1 + B) 6 = none
theorem plain3 {a b : ByteArray} {A B : Int} (ha1 : isName a.data.toList = true) (hb1 : isName b.data.toList = true) (ha2 : sameB a.data.toList (⟨#[9, 110, 101, 119, 99, 111, 109, 101, 114, 115, 0]⟩ : ByteArray).data.toList = false) (hb2 : sameB b.data.toList (⟨#[9, 110, 101, 119, 99, 111, 109, 101, 114, 115, 0]⟩ : ByteArray).data.toList = false) (hne : ¬ (sameB a.data.toList b.data.toList = true ∧ A = B)) (A0 : 0 ≤ A) (A8 : A < 8) (B0 : 0 ≤ B) (B8 : B < 8) : Plain3 a b A B := by
  have m1 : mayE ⟨a, 1 + A, 5, dX, 3, 50⟩ 4 = true := may_yes ha1 (by simp only; omega) (by simp only; omega) (by simp [dX]) (by simp) (by simp) (by simp) (by decide) (by decide)
  have m2 : mayE ⟨b, 1 + B, 5, dY, 3, 50⟩ 4 = true := may_yes hb1 (by simp only; omega) (by simp only; omega) (by simp [dY]) (by simp) (by simp) (by simp) (by decide) (by decide)
  have k21 : sameK (fdB b) (1 + B) ⟨fdB a, 1 + A, 5, dX, 3, 50⟩ = false := by
    cases h : sameK (fdB b) (1 + B) ⟨fdB a, 1 + A, 5, dX, 3, 50⟩ with
    | false => rfl
    | true => have := sameK_iff.1 h; exact absurd ⟨fd_same ha1 hb1 this.1, by simp only at this; omega⟩ hne
  have k12 : sameK (fdB a) (1 + A) ⟨fdB b, 1 + B, 5, dY, 3, 50⟩ = false := by
    cases h : sameK (fdB a) (1 + A) ⟨fdB b, 1 + B, 5, dY, 3, 50⟩ with
    | false => rfl
    | true => have := sameK_iff.1 h; exact absurd ⟨fd_same ha1 hb1 this.1.symm, by simp only at this; omega⟩ hne
  have kna : ∀ t s l d r u, sameK (fdB a) t ⟨⟨#[9, 110, 101, 119, 99, 111, 109, 101, 114, 115, 0]⟩, s, l, d, r, u⟩ = false := fun t s l d r u => by
    cases h : sameK (fdB a) t ⟨⟨#[9, 110, 101, 119, 99, 111, 109, 101, 114, 115, 0]⟩, s, l, d, r, u⟩ with
    | false => rfl
    | true => have := sameK_iff.1 h; have := fd_same ha1 nc_name (by rw [fd_nc]; exact this.1.symm); rw [ha2] at this; cases this
  have knb : ∀ t s l d r u, sameK (fdB b) t ⟨⟨#[9, 110, 101, 119, 99, 111, 109, 101, 114, 115, 0]⟩, s, l, d, r, u⟩ = false := fun t s l d r u => by
    cases h : sameK (fdB b) t ⟨⟨#[9, 110, 101, 119, 99, 111, 109, 101, 114, 115, 0]⟩, s, l, d, r, u⟩ with
    | false => rfl
    | true => have := sameK_iff.1 h; have := fd_same hb1 nc_name (by rw [fd_nc]; exact this.1.symm); rw [hb2] at this; cases this
  have kan : sameK ⟨#[9, 110, 101, 119, 99, 111, 109, 101, 114, 115, 0]⟩ 1 ⟨fdB a, 1 + A, 5, dX, 3, 50⟩ = false := by
    cases h : sameK ⟨#[9, 110, 101, 119, 99, 111, 109, 101, 114, 115, 0]⟩ 1 ⟨fdB a, 1 + A, 5, dX, 3, 50⟩ with
    | false => rfl
    | true => have h2 := sameK_iff.1 h; have := fd_same ha1 nc_name (by rw [fd_nc]; exact h2.1); rw [ha2] at this; cases this
  have kbn : sameK ⟨#[9, 110, 101, 119, 99, 111, 109, 101, 114, 115, 0]⟩ 1 ⟨fdB b, 1 + B, 5, dY, 3, 50⟩ = false := by
    cases h : sameK ⟨#[9, 110, 101, 119, 99, 111, 109, 101, 114, 115, 0]⟩ 1 ⟨fdB b, 1 + B, 5, dY, 3, 50⟩ with
    | false => rfl
    | true => have h2 := sameK_iff.1 h; have := fd_same hb1 nc_name (by rw [fd_nc]; exact h2.1); rw [hb2] at this; cases this
  have kaa : sameK (fdB a) (1 + A) ⟨fdB a, 1 + A, 5, dX, 3, 50⟩ = true := sameK_iff.2 ⟨rfl, rfl⟩
  have kbb : sameK (fdB b) (1 + B) ⟨fdB b, 1 + B, 5, dY, 3, 50⟩ = true := sameK_iff.2 ⟨rfl, rfl⟩
  have m3 : mayE ⟨⟨#[9, 110, 101, 119, 99, 111, 109, 101, 114, 115, 0]⟩, 1, 5, dZ, 1, 20⟩ 5 = true := by decide
  have hput3 : putP 2 [⟨fdB a, 1 + A, 5, dX, 3, 50⟩, ⟨fdB b, 1 + B, 5, dY, 3, 50⟩] ⟨⟨#[9, 110, 101, 119, 99, 111, 109, 101, 114, 115, 0]⟩, 1, 5, dZ, 1, 20⟩ 5 = [⟨fdB a, 1 + A, 5, dX, 3, 50⟩, ⟨fdB b, 1 + B, 5, dY, 3, 50⟩].eraseIdx (minP [⟨fdB a, 1 + A, 5, dX, 3, 50⟩, ⟨fdB b, 1 + B, 5, dY, 3, 50⟩]) ++ [⟨⟨#[9, 110, 101, 119, 99, 111, 109, 101, 114, 115, 0]⟩, 1, 5, dZ, 1, 20⟩] := by
    have hb : beatsP [⟨fdB a, 1 + A, 5, dX, 3, 50⟩, ⟨fdB b, 1 + B, 5, dY, 3, 50⟩] ⟨#[9, 110, 101, 119, 99, 111, 109, 101, 114, 115, 0]⟩ 1 1 5 = false := by unfold beatsP; simp [kan, kbn]
    have hl : leftP [⟨fdB a, 1 + A, 5, dX, 3, 50⟩, ⟨fdB b, 1 + B, 5, dY, 3, 50⟩] ⟨#[9, 110, 101, 119, 99, 111, 109, 101, 114, 115, 0]⟩ 1 5 = [⟨fdB a, 1 + A, 5, dX, 3, 50⟩, ⟨fdB b, 1 + B, 5, dY, 3, 50⟩] := by unfold leftP; simp [kan, kbn]
    unfold putP
    simp only [fd_nc]
    rw [m3, hb, hl]
    unfold cutP heldE
    simp only [fd_nc]
    rfl
  have hmin : minP [⟨fdB a, 1 + A, 5, dX, 3, 50⟩, ⟨fdB b, 1 + B, 5, dY, 3, 50⟩] = if ltE ⟨fdB b, 1 + B, 5, dY, 3, 50⟩ ⟨fdB a, 1 + A, 5, dX, 3, 50⟩ then 1 else 0 := by
    unfold minP
    show minK [⟨fdB a, 1 + A, 5, dX, 3, 50⟩, ⟨fdB b, 1 + B, 5, dY, 3, 50⟩] 2 = _
    have e1 : minK [⟨fdB a, 1 + A, 5, dX, 3, 50⟩, ⟨fdB b, 1 + B, 5, dY, 3, 50⟩] 1 = 0 := by
      have := minK_lt (L := [⟨fdB a, 1 + A, 5, dX, 3, 50⟩, ⟨fdB b, 1 + B, 5, dY, 3, 50⟩]) (Nat.le_refl 1) (by simp)
      omega
    rw [minK, e1]
    rfl
  have hl1 : cK (fdB a) (1 + A) (fdB b) (1 + B) < 0 ↔ cmpN a.data.toList b.data.toList < 0 ∨ cmpN a.data.toList b.data.toList = 0 ∧ 1 + A < 1 + B := by rw [cK_neg, cmp_fd ha1 hb1]
  have han := cK_anti (fdB a) (1 + A) (fdB b) (1 + B)
  refine ⟨err_yes m1, err_yes m2, put_none m1 (by decide), ?_, fun h => ?_, fun h => ?_, ?_, ?_, ?_, ?_⟩
  · have hb : beatsP [⟨fdB a, 1 + A, 5, dX, 3, 50⟩] (fdB b) (1 + B) 3 4 = false := by unfold beatsP; simp [k21]
    have hl : leftP [⟨fdB a, 1 + A, 5, dX, 3, 50⟩] (fdB b) (1 + B) 4 = [⟨fdB a, 1 + A, 5, dX, 3, 50⟩] := by unfold leftP; simp [k21]
    unfold putP
    rw [m2, hb, hl]
    rfl
  · rw [hput3, hmin]
    have : ltE ⟨fdB b, 1 + B, 5, dY, 3, 50⟩ ⟨fdB a, 1 + A, 5, dX, 3, 50⟩ = false := by
      cases hx : ltE ⟨fdB b, 1 + B, 5, dY, 3, 50⟩ ⟨fdB a, 1 + A, 5, dX, 3, 50⟩ with
      | false => rfl
      | true =>
        have h2 := ltE_iff.1 hx
        simp only at h2
        have := hl1.2 h
        omega
    rw [this]; rfl
  · rw [hput3, hmin]
    have : ltE ⟨fdB b, 1 + B, 5, dY, 3, 50⟩ ⟨fdB a, 1 + A, 5, dX, 3, 50⟩ = true := by
      refine ltE_iff.2 (.inr ⟨rfl, ?_⟩)
      have h3 : ¬ cK (fdB a) (1 + A) (fdB b) (1 + B) < 0 := fun h4 => by have := hl1.1 h4; unfold last_of at h; omega
      have h4 : cK (fdB a) (1 + A) (fdB b) (1 + B) ≠ 0 := fun h5 => by
        unfold cK at h5
        rw [cmp_fd ha1 hb1] at h5
        unfold last_of at h
        split at h5
        · have := sgn_zero h5; omega
        · omega
      simp only
      omega
    rw [this]; rfl
  · exact get_late (fun x hx hs => by
      simp at hx
      rcases hx with rfl | rfl
      · rw [k12] at hs; cases hs
      · rw [kna] at hs; cases hs)
  · unfold getP; simp [kbb]
  · unfold getP; simp [kaa]
  · exact get_late (fun x hx hs => by
      simp at hx
      rcases hx with rfl | rfl
      · rw [k21] at hs; cases hs
      · rw [knb] at hs; cases hs)

set_option maxRecDepth 20000 in
theorem no1 (a b : ByteArray) (t u : Int) (w : World) (ha : a.size ≤ maxLen) (_hb : b.size ≤ maxLen) (ha1 : isName a.data.toList = false) :
    Calls Try.prog 8 #[.string a, .string b, .int .i64 t, .int .i64 u] w fun e w' => e = .returned (.bool true) ∧ Below w.heap.size w w' := by
  have hB : Below w.heap.size w w := Below.refl _ _
  have t1 : True := trivial
  have t2 : True := trivial
  have t3 : True := trivial
  have t4 : True := trivial
  go_enter Try.func8, Try.ntmps8
  go_wp2_with (first
    | (go_at_call 12; go_must (refine (awake_any _).mono ?_); rintro e w1 ⟨rfl, b1⟩; replace hB := next hB b1; clear b1)
    | (go_at_call 24; have _t := t1; go_must (refine (refMay_as a false _ ha ha1).mono ?_); rintro e wn ⟨rfl, bn⟩; replace hB := next hB bn; clear bn t1))
  go_ret
  exact ⟨rfl, hB⟩

set_option maxRecDepth 20000 in
theorem no2 (a b : ByteArray) (t u : Int) (w : World) (ha : a.size ≤ maxLen) (hb : b.size ≤ maxLen) (ha1 : isName a.data.toList = true) (hb1 : isName b.data.toList = false) :
    Calls Try.prog 8 #[.string a, .string b, .int .i64 t, .int .i64 u] w fun e w' => e = .returned (.bool true) ∧ Below w.heap.size w w' := by
  have hB : Below w.heap.size w w := Below.refl _ _
  have t1 : True := trivial
  have t2 : True := trivial
  have t3 : True := trivial
  have t4 : True := trivial
  go_enter Try.func8, Try.ntmps8
  go_wp2_with (first
    | (go_at_call 12; go_must (refine (awake_any _).mono ?_); rintro e w1 ⟨rfl, b1⟩; replace hB := next hB b1; clear b1)
    | (go_at_call 24; have _t := t1; go_must (refine (refMay_as a true _ ha ha1).mono ?_); rintro e wn ⟨rfl, bn⟩; replace hB := next hB bn; clear bn t1)
    | (go_at_call 24; have _t := t2; go_must (refine (refMay_as b false _ hb hb1).mono ?_); rintro e wn ⟨rfl, bn⟩; replace hB := next hB bn; clear bn t2))
  go_ret
  exact ⟨rfl, hB⟩

set_option maxRecDepth 20000 in
theorem no3 (a b : ByteArray) (t u : Int) (w : World) (ha : a.size ≤ maxLen) (hb : b.size ≤ maxLen) (ha1 : isName a.data.toList = true) (hb1 : isName b.data.toList = true) (ha2 : sameB a.data.toList (⟨#[9, 110, 101, 119, 99, 111, 109, 101, 114, 115, 0]⟩ : ByteArray).data.toList = true) :
    Calls Try.prog 8 #[.string a, .string b, .int .i64 t, .int .i64 u] w fun e w' => e = .returned (.bool true) ∧ Below w.heap.size w w' := by
  have hB : Below w.heap.size w w := Below.refl _ _
  have t1 : True := trivial
  have t2 : True := trivial
  have t3 : True := trivial
  have t4 : True := trivial
  go_enter Try.func8, Try.ntmps8
  go_wp2_with (first
    | (go_at_call 12; go_must (refine (awake_any _).mono ?_); rintro e w1 ⟨rfl, b1⟩; replace hB := next hB b1; clear b1)
    | (go_at_call 24; have _t := t1; go_must (refine (refMay_as a true _ ha ha1).mono ?_); rintro e wn ⟨rfl, bn⟩; replace hB := next hB bn; clear bn t1)
    | (go_at_call 24; have _t := t2; go_must (refine (refMay_as b true _ hb hb1).mono ?_); rintro e wn ⟨rfl, bn⟩; replace hB := next hB bn; clear bn t2)
    | (go_at_call 28; have _t := t3; go_must (refine (refSame_as a ⟨#[9, 110, 101, 119, 99, 111, 109, 101, 114, 115, 0]⟩ true _ ha (by decide) ha2).mono ?_); rintro e wn ⟨rfl, bn⟩; replace hB := next hB bn; clear bn t3))
  go_ret
  exact ⟨rfl, hB⟩

set_option maxRecDepth 20000 in
theorem no4 (a b : ByteArray) (t u : Int) (w : World) (ha : a.size ≤ maxLen) (hb : b.size ≤ maxLen) (ha1 : isName a.data.toList = true) (hb1 : isName b.data.toList = true) (ha2 : sameB a.data.toList (⟨#[9, 110, 101, 119, 99, 111, 109, 101, 114, 115, 0]⟩ : ByteArray).data.toList = false) (hb2 : sameB b.data.toList (⟨#[9, 110, 101, 119, 99, 111, 109, 101, 114, 115, 0]⟩ : ByteArray).data.toList = true) :
    Calls Try.prog 8 #[.string a, .string b, .int .i64 t, .int .i64 u] w fun e w' => e = .returned (.bool true) ∧ Below w.heap.size w w' := by
  have hB : Below w.heap.size w w := Below.refl _ _
  have t1 : True := trivial
  have t2 : True := trivial
  have t3 : True := trivial
  have t4 : True := trivial
  go_enter Try.func8, Try.ntmps8
  go_wp2_with (first
    | (go_at_call 12; go_must (refine (awake_any _).mono ?_); rintro e w1 ⟨rfl, b1⟩; replace hB := next hB b1; clear b1)
    | (go_at_call 24; have _t := t1; go_must (refine (refMay_as a true _ ha ha1).mono ?_); rintro e wn ⟨rfl, bn⟩; replace hB := next hB bn; clear bn t1)
    | (go_at_call 24; have _t := t2; go_must (refine (refMay_as b true _ hb hb1).mono ?_); rintro e wn ⟨rfl, bn⟩; replace hB := next hB bn; clear bn t2)
    | (go_at_call 28; have _t := t3; go_must (refine (refSame_as a ⟨#[9, 110, 101, 119, 99, 111, 109, 101, 114, 115, 0]⟩ false _ ha (by decide) ha2).mono ?_); rintro e wn ⟨rfl, bn⟩; replace hB := next hB bn; clear bn t3)
    | (go_at_call 28; have _t := t4; go_must (refine (refSame_as b ⟨#[9, 110, 101, 119, 99, 111, 109, 101, 114, 115, 0]⟩ true _ hb (by decide) hb2).mono ?_); rintro e wn ⟨rfl, bn⟩; replace hB := next hB bn; clear bn t4))
  go_ret
  exact ⟨rfl, hB⟩

set_option maxRecDepth 20000 in
theorem no5 (a b : ByteArray) (t u : Int) (w : World) (ha : a.size ≤ maxLen) (hb : b.size ≤ maxLen) (ha1 : isName a.data.toList = true) (hb1 : isName b.data.toList = true) (ha2 : sameB a.data.toList (⟨#[9, 110, 101, 119, 99, 111, 109, 101, 114, 115, 0]⟩ : ByteArray).data.toList = false) (hb2 : sameB b.data.toList (⟨#[9, 110, 101, 119, 99, 111, 109, 101, 114, 115, 0]⟩ : ByteArray).data.toList = false) (hab : sameB a.data.toList b.data.toList = true) (A : Int) (hA : bits .and .i64 t 7 = A) (hB7 : bits .and .i64 u 7 = A) (A0 : 0 ≤ A) (A8 : A < 8) :
    Calls Try.prog 8 #[.string a, .string b, .int .i64 t, .int .i64 u] w fun e w' => e = .returned (.bool true) ∧ Below w.heap.size w w' := by
  have hB : Below w.heap.size w w := Below.refl _ _
  have t1 : True := trivial
  have t2 : True := trivial
  have t3 : True := trivial
  have t4 : True := trivial
  go_enter Try.func8, Try.ntmps8
  go_wp2_with (first
    | (go_at_call 12; go_must (refine (awake_any _).mono ?_); rintro e w1 ⟨rfl, b1⟩; replace hB := next hB b1; clear b1)
    | (go_at_call 24; have _t := t1; go_must (refine (refMay_as a true _ ha ha1).mono ?_); rintro e wn ⟨rfl, bn⟩; replace hB := next hB bn; clear bn t1)
    | (go_at_call 24; have _t := t2; go_must (refine (refMay_as b true _ hb hb1).mono ?_); rintro e wn ⟨rfl, bn⟩; replace hB := next hB bn; clear bn t2)
    | (go_at_call 28; have _t := t3; go_must (refine (refSame_as a ⟨#[9, 110, 101, 119, 99, 111, 109, 101, 114, 115, 0]⟩ false _ ha (by decide) ha2).mono ?_); rintro e wn ⟨rfl, bn⟩; replace hB := next hB bn; clear bn t3)
    | (go_at_call 28; have _t := t4; go_must (refine (refSame_as b ⟨#[9, 110, 101, 119, 99, 111, 109, 101, 114, 115, 0]⟩ false _ hb (by decide) hb2).mono ?_); rintro e wn ⟨rfl, bn⟩; replace hB := next hB bn; clear bn t4)
    | (go_at_call 28; go_must (refine (refSame_as a b true _ ha hb hab).mono ?_); rintro e wn ⟨rfl, bn⟩; replace hB := next hB bn; clear bn))
  go_ret
  exact ⟨rfl, hB⟩

set_option maxRecDepth 20000 in
set_option maxHeartbeats 2000000 in
theorem lt (a b : ByteArray) (t u A B : Int) (w : World) (ha : a.size ≤ maxLen) (hb : b.size ≤ maxLen) (ha1 : isName a.data.toList = true) (hb1 : isName b.data.toList = true) (ha2 : sameB a.data.toList (⟨#[9, 110, 101, 119, 99, 111, 109, 101, 114, 115, 0]⟩ : ByteArray).data.toList = false) (hb2 : sameB b.data.toList (⟨#[9, 110, 101, 119, 99, 111, 109, 101, 114, 115, 0]⟩ : ByteArray).data.toList = false) (hab : sameB a.data.toList b.data.toList = false) (hA : bits .and .i64 t 7 = A) (A0 : 0 ≤ A) (A8 : A < 8) (hB7 : bits .and .i64 u 7 = B) (B0 : 0 ≤ B) (B8 : B < 8) (hc : cmpN a.data.toList b.data.toList < 0) :
    Calls Try.prog 8 #[.string a, .string b, .int .i64 t, .int .i64 u] w fun e w' => e = .returned (.bool true) ∧ Below w.heap.size w w' := by
  have hB : Below w.heap.size w w := Below.refl _ _
  have hne : ¬ (sameB a.data.toList b.data.toList = true ∧ A = B) := by rw [hab]; simp
  have hord : first_of a.data.toList b.data.toList (1 + A) (1 + B) := .inl hc
  have P := plain3 ha1 hb1 ha2 hb2 hne A0 A8 B0 B8
  have HE1 : Hid (errP ⟨a, 1 + A, 5, dX, 3, 50⟩ 4 = 0) := P.e1
  have HE2 : Hid (errP ⟨b, 1 + B, 5, dY, 3, 50⟩ 4 = 0) := P.e2
  have HP1 : Hid (putP 2 [] ⟨a, 1 + A, 5, dX, 3, 50⟩ 4 = [⟨fdB a, 1 + A, 5, dX, 3, 50⟩]) := P.p1
  have HP2 : Hid (putP 2 [⟨fdB a, 1 + A, 5, dX, 3, 50⟩] ⟨b, 1 + B, 5, dY, 3, 50⟩ 4 = [⟨fdB a, 1 + A, 5, dX, 3, 50⟩, ⟨fdB b, 1 + B, 5, dY, 3, 50⟩]) := P.p2
  have HP3 : Hid (putP 2 [⟨fdB a, 1 + A, 5, dX, 3, 50⟩, ⟨fdB b, 1 + B, 5, dY, 3, 50⟩] ⟨⟨#[9, 110, 101, 119, 99, 111, 109, 101, 114, 115, 0]⟩, 1, 5, dZ, 1, 20⟩ 5 = [⟨fdB b, 1 + B, 5, dY, 3, 50⟩, ⟨⟨#[9, 110, 101, 119, 99, 111, 109, 101, 114, 115, 0]⟩, 1, 5, dZ, 1, 20⟩]) := P.p3f hord
  have HE3 : Hid (errP ⟨⟨#[9, 110, 101, 119, 99, 111, 109, 101, 114, 115, 0]⟩, 1, 5, dZ, 1, 20⟩ 5 = 0) := by unfold Hid; decide
  have HGA : Hid (getP [⟨fdB b, 1 + B, 5, dY, 3, 50⟩, ⟨⟨#[9, 110, 101, 119, 99, 111, 109, 101, 114, 115, 0]⟩, 1, 5, dZ, 1, 20⟩] a (1 + A) 6 = none) := P.gaf
  have HGB : Hid (getP [⟨fdB b, 1 + B, 5, dY, 3, 50⟩, ⟨⟨#[9, 110, 101, 119, 99, 111, 109, 101, 114, 115, 0]⟩, 1, 5, dZ, 1, 20⟩] b (1 + B) 6 = some ⟨fdB b, 1 + B, 5, dY, 3, 50⟩) := P.gbf
  have HT : Hid (wrap64 (50 - 6) = 44) := by unfold Hid wrap64; decide
  have hwA : (Lit.int .i64 (1 + A)).wf = true := WalkArith.wf_i64 (by omega)
  have hwB : (Lit.int .i64 (1 + B)).wf = true := WalkArith.wf_i64 (by omega)
  have hcm : ∀ v : World, Calls Try.prog 29 #[.string a, .string b] v fun e w' => e = .returned (.int .i64 (cmpN a.data.toList b.data.toList)) ∧ Below v.heap.size v w' := fun v => refCompare_any a b v ha hb
  skip
  clear P hord hne
  have t1 : True := trivial
  have t2 : True := trivial
  have t3 : True := trivial
  have t4 : True := trivial
  have t5 : True := trivial
  have t6 : True := trivial
  have t7 : True := trivial
  have t8 : True := trivial
  have t9 : True := trivial
  go_enter Try.func8, Try.ntmps8
  go_wp2_with (first
    | (go_at_call 11; refine (num_any _ _).mono ?_; rintro e w' ⟨rfl, hw⟩; obtain rfl := hw.symm)
    | (go_at_call 12; go_must (refine (awake_any _).mono ?_); rintro e w1 ⟨rfl, b1⟩; replace hB := next hB b1; clear b1)
    | (go_at_call 24; have _t := t1; go_must (refine (refMay_as a true _ ha ha1).mono ?_); rintro e wn ⟨rfl, bn⟩; replace hB := next hB bn; clear bn t1)
    | (go_at_call 24; have _t := t2; go_must (refine (refMay_as b true _ hb hb1).mono ?_); rintro e wn ⟨rfl, bn⟩; replace hB := next hB bn; clear bn t2)
    | (go_at_call 28; have _t := t3; go_must (refine (refSame_as a ⟨#[9, 110, 101, 119, 99, 111, 109, 101, 114, 115, 0]⟩ false _ ha (by decide) ha2).mono ?_); rintro e wn ⟨rfl, bn⟩; replace hB := next hB bn; clear bn t3)
    | (go_at_call 28; have _t := t4; go_must (refine (refSame_as b ⟨#[9, 110, 101, 119, 99, 111, 109, 101, 114, 115, 0]⟩ false _ hb (by decide) hb2).mono ?_); rintro e wn ⟨rfl, bn⟩; replace hB := next hB bn; clear bn t4)
    | (go_at_call 28; go_must (refine (refSame_as a b false _ ha hb hab).mono ?_); rintro e wn ⟨rfl, bn⟩; replace hB := next hB bn; clear bn)
    | (go_at_call 9; go_must (refine (lw_new hB 2 (by decide) (by decide)).mono ?_); rintro e w2 ⟨gs, rfl, lw2⟩)
    | (go_at_call 25; have _t := t5; go_must (refine (set_any _ _ _ _).mono ?_); rintro e w3 ⟨g3, rfl, k3, _, b3⟩; have hp1 := lw_put (lw2.below b3) a (1 + A) 5 3 50 4 (.slice (some ⟨g3, 0, none⟩) 1 1) dX ha (row_d k3) (by decide) sX 0 HE1.out _ HP1.out; clear b3 k3 t5)
    | (go_at_call 14; have _t := t6; go_must (refine hp1.mono ?_); rintro e w4 ⟨rfl, mb4, L4, lw4, _, _⟩; clear hp1 t6)
    | (go_at_call 25; have _t := t7; go_must (refine (set_any _ _ _ _).mono ?_); rintro e w5 ⟨g5, rfl, k5, _, b5⟩; have hp2 := lw_put (lw4.below b5) b (1 + B) 5 3 50 4 (.slice (some ⟨g5, 0, none⟩) 1 1) dY hb (row_d k5) (by decide) sY 0 HE2.out _ HP2.out; clear b5 k5 t7)
    | (go_at_call 14; have _t := t8; go_must (refine hp2.mono ?_); rintro e w6 ⟨rfl, mb6, L6, lw6, _, _⟩; clear hp2 t8)
    | (go_at_call 25; go_must (refine (set_any _ _ _ _).mono ?_); rintro e w7 ⟨g7, rfl, k7, _, b7⟩; have hp3 := lw_put (lw6.below b7) ⟨#[9, 110, 101, 119, 99, 111, 109, 101, 114, 115, 0]⟩ 1 5 1 20 5 (.slice (some ⟨g7, 0, none⟩) 1 1) dZ (by decide) (row_d k7) (by decide) sZ 0 HE3.out _ HP3.out; clear b7 k7)
    | (go_at_call 14; go_must (refine hp3.mono ?_); rintro e w8 ⟨rfl, mb8, L8, lw8', _, _⟩; clear hp3)
    | (go_at_call 29; go_must (refine (hcm _).mono ?_); rintro e wc ⟨rfl, bc⟩; have lw8 := lw8'.below bc; have hq1 := lw8.get_none a (1 + A) 6 ha hwA HGA.out; skip; clear bc)
    | (go_at_call 18; have _t := t9; go_must (refine hq1.mono ?_); rintro e w9 ⟨rfl, bn⟩; have lw9 := lw8.below (lay bn (.cells #[.string ⟨#[]⟩, .int .i64 0, .int .i64 0, .slice none 0 0] 34)); clear bn t9; have hq2 := lw9.get_some b (1 + B) 6 hb hwB _ HGB.out; simp only [HT.out] at hq2)
    | (go_at_call 18; go_must (refine hq2.mono ?_); rintro e w10 ⟨gn, rfl, on, hgn, bn⟩; have lw10 := lw9.below (lay bn (.cells #[.string (fdB b), .int .i64 (1 + B), .int .i64 44, .slice (some ⟨gn, 0, none⟩) 1 1] 34)); clear bn on)
    | (go_at_call 22; go_must (refine (lw10.all 2 rfl).mono ?_); rintro e w11 ⟨y11, c11, M11, rfl, _, _, _, lw11, _⟩))
  go_ret
  exact ⟨rfl, lw11.bel⟩

set_option maxRecDepth 20000 in
set_option maxHeartbeats 2000000 in
theorem gt (a b : ByteArray) (t u A B : Int) (w : World) (ha : a.size ≤ maxLen) (hb : b.size ≤ maxLen) (ha1 : isName a.data.toList = true) (hb1 : isName b.data.toList = true) (ha2 : sameB a.data.toList (⟨#[9, 110, 101, 119, 99, 111, 109, 101, 114, 115, 0]⟩ : ByteArray).data.toList = false) (hb2 : sameB b.data.toList (⟨#[9, 110, 101, 119, 99, 111, 109, 101, 114, 115, 0]⟩ : ByteArray).data.toList = false) (hab : sameB a.data.toList b.data.toList = false) (hA : bits .and .i64 t 7 = A) (A0 : 0 ≤ A) (A8 : A < 8) (hB7 : bits .and .i64 u 7 = B) (B0 : 0 ≤ B) (B8 : B < 8) (hc : 0 < cmpN a.data.toList b.data.toList) :
    Calls Try.prog 8 #[.string a, .string b, .int .i64 t, .int .i64 u] w fun e w' => e = .returned (.bool true) ∧ Below w.heap.size w w' := by
  have hB : Below w.heap.size w w := Below.refl _ _
  have hne : ¬ (sameB a.data.toList b.data.toList = true ∧ A = B) := by rw [hab]; simp
  have hord : last_of a.data.toList b.data.toList (1 + A) (1 + B) := .inl hc
  have P := plain3 ha1 hb1 ha2 hb2 hne A0 A8 B0 B8
  have HE1 : Hid (errP ⟨a, 1 + A, 5, dX, 3, 50⟩ 4 = 0) := P.e1
  have HE2 : Hid (errP ⟨b, 1 + B, 5, dY, 3, 50⟩ 4 = 0) := P.e2
  have HP1 : Hid (putP 2 [] ⟨a, 1 + A, 5, dX, 3, 50⟩ 4 = [⟨fdB a, 1 + A, 5, dX, 3, 50⟩]) := P.p1
  have HP2 : Hid (putP 2 [⟨fdB a, 1 + A, 5, dX, 3, 50⟩] ⟨b, 1 + B, 5, dY, 3, 50⟩ 4 = [⟨fdB a, 1 + A, 5, dX, 3, 50⟩, ⟨fdB b, 1 + B, 5, dY, 3, 50⟩]) := P.p2
  have HP3 : Hid (putP 2 [⟨fdB a, 1 + A, 5, dX, 3, 50⟩, ⟨fdB b, 1 + B, 5, dY, 3, 50⟩] ⟨⟨#[9, 110, 101, 119, 99, 111, 109, 101, 114, 115, 0]⟩, 1, 5, dZ, 1, 20⟩ 5 = [⟨fdB a, 1 + A, 5, dX, 3, 50⟩, ⟨⟨#[9, 110, 101, 119, 99, 111, 109, 101, 114, 115, 0]⟩, 1, 5, dZ, 1, 20⟩]) := P.p3l hord
  have HE3 : Hid (errP ⟨⟨#[9, 110, 101, 119, 99, 111, 109, 101, 114, 115, 0]⟩, 1, 5, dZ, 1, 20⟩ 5 = 0) := by unfold Hid; decide
  have HGA : Hid (getP [⟨fdB a, 1 + A, 5, dX, 3, 50⟩, ⟨⟨#[9, 110, 101, 119, 99, 111, 109, 101, 114, 115, 0]⟩, 1, 5, dZ, 1, 20⟩] a (1 + A) 6 = some ⟨fdB a, 1 + A, 5, dX, 3, 50⟩) := P.gal
  have HGB : Hid (getP [⟨fdB a, 1 + A, 5, dX, 3, 50⟩, ⟨⟨#[9, 110, 101, 119, 99, 111, 109, 101, 114, 115, 0]⟩, 1, 5, dZ, 1, 20⟩] b (1 + B) 6 = none) := P.gbl
  have HT : Hid (wrap64 (50 - 6) = 44) := by unfold Hid wrap64; decide
  have hwA : (Lit.int .i64 (1 + A)).wf = true := WalkArith.wf_i64 (by omega)
  have hwB : (Lit.int .i64 (1 + B)).wf = true := WalkArith.wf_i64 (by omega)
  have hcm : ∀ v : World, Calls Try.prog 29 #[.string a, .string b] v fun e w' => e = .returned (.int .i64 (cmpN a.data.toList b.data.toList)) ∧ Below v.heap.size v w' := fun v => refCompare_any a b v ha hb
  have hc1 : decide (cmpN a.data.toList b.data.toList < 0) = false := by simp; omega
  have hc2 : (cmpN a.data.toList b.data.toList == 0) = false := by simp; omega
  clear P hord hne
  have t1 : True := trivial
  have t2 : True := trivial
  have t3 : True := trivial
  have t4 : True := trivial
  have t5 : True := trivial
  have t6 : True := trivial
  have t7 : True := trivial
  have t8 : True := trivial
  have t9 : True := trivial
  go_enter Try.func8, Try.ntmps8
  go_wp2_with (first
    | (go_at_call 11; refine (num_any _ _).mono ?_; rintro e w' ⟨rfl, hw⟩; obtain rfl := hw.symm)
    | (go_at_call 12; go_must (refine (awake_any _).mono ?_); rintro e w1 ⟨rfl, b1⟩; replace hB := next hB b1; clear b1)
    | (go_at_call 24; have _t := t1; go_must (refine (refMay_as a true _ ha ha1).mono ?_); rintro e wn ⟨rfl, bn⟩; replace hB := next hB bn; clear bn t1)
    | (go_at_call 24; have _t := t2; go_must (refine (refMay_as b true _ hb hb1).mono ?_); rintro e wn ⟨rfl, bn⟩; replace hB := next hB bn; clear bn t2)
    | (go_at_call 28; have _t := t3; go_must (refine (refSame_as a ⟨#[9, 110, 101, 119, 99, 111, 109, 101, 114, 115, 0]⟩ false _ ha (by decide) ha2).mono ?_); rintro e wn ⟨rfl, bn⟩; replace hB := next hB bn; clear bn t3)
    | (go_at_call 28; have _t := t4; go_must (refine (refSame_as b ⟨#[9, 110, 101, 119, 99, 111, 109, 101, 114, 115, 0]⟩ false _ hb (by decide) hb2).mono ?_); rintro e wn ⟨rfl, bn⟩; replace hB := next hB bn; clear bn t4)
    | (go_at_call 28; go_must (refine (refSame_as a b false _ ha hb hab).mono ?_); rintro e wn ⟨rfl, bn⟩; replace hB := next hB bn; clear bn)
    | (go_at_call 9; go_must (refine (lw_new hB 2 (by decide) (by decide)).mono ?_); rintro e w2 ⟨gs, rfl, lw2⟩)
    | (go_at_call 25; have _t := t5; go_must (refine (set_any _ _ _ _).mono ?_); rintro e w3 ⟨g3, rfl, k3, _, b3⟩; have hp1 := lw_put (lw2.below b3) a (1 + A) 5 3 50 4 (.slice (some ⟨g3, 0, none⟩) 1 1) dX ha (row_d k3) (by decide) sX 0 HE1.out _ HP1.out; clear b3 k3 t5)
    | (go_at_call 14; have _t := t6; go_must (refine hp1.mono ?_); rintro e w4 ⟨rfl, mb4, L4, lw4, _, _⟩; clear hp1 t6)
    | (go_at_call 25; have _t := t7; go_must (refine (set_any _ _ _ _).mono ?_); rintro e w5 ⟨g5, rfl, k5, _, b5⟩; have hp2 := lw_put (lw4.below b5) b (1 + B) 5 3 50 4 (.slice (some ⟨g5, 0, none⟩) 1 1) dY hb (row_d k5) (by decide) sY 0 HE2.out _ HP2.out; clear b5 k5 t7)
    | (go_at_call 14; have _t := t8; go_must (refine hp2.mono ?_); rintro e w6 ⟨rfl, mb6, L6, lw6, _, _⟩; clear hp2 t8)
    | (go_at_call 25; go_must (refine (set_any _ _ _ _).mono ?_); rintro e w7 ⟨g7, rfl, k7, _, b7⟩; have hp3 := lw_put (lw6.below b7) ⟨#[9, 110, 101, 119, 99, 111, 109, 101, 114, 115, 0]⟩ 1 5 1 20 5 (.slice (some ⟨g7, 0, none⟩) 1 1) dZ (by decide) (row_d k7) (by decide) sZ 0 HE3.out _ HP3.out; clear b7 k7)
    | (go_at_call 14; go_must (refine hp3.mono ?_); rintro e w8 ⟨rfl, mb8, L8, lw8', _, _⟩; clear hp3)
    | (go_at_call 29; go_must (refine (hcm _).mono ?_); rintro e wc ⟨rfl, bc⟩; have lw8 := lw8'.below bc; have hq1 := lw8.get_some a (1 + A) 6 ha hwA _ HGA.out; simp only [HT.out] at hq1; clear bc)
    | (go_at_call 18; have _t := t9; go_must (refine hq1.mono ?_); rintro e w9 ⟨gn, rfl, on, hgn, bn⟩; have lw9 := lw8.below (lay bn (.cells #[.string (fdB a), .int .i64 (1 + A), .int .i64 44, .slice (some ⟨gn, 0, none⟩) 1 1] 34)); clear bn on t9; have hq2 := lw9.get_none b (1 + B) 6 hb hwB HGB.out; skip)
    | (go_at_call 18; go_must (refine hq2.mono ?_); rintro e w10 ⟨rfl, bn⟩; have lw10 := lw9.below (lay bn (.cells #[.string ⟨#[]⟩, .int .i64 0, .int .i64 0, .slice none 0 0] 34)); clear bn)
    | (go_at_call 22; go_must (refine (lw10.all 2 rfl).mono ?_); rintro e w11 ⟨y11, c11, M11, rfl, _, _, _, lw11, _⟩))
  go_ret
  exact ⟨rfl, lw11.bel⟩

set_option maxRecDepth 20000 in
set_option maxHeartbeats 2000000 in
theorem elt (a b : ByteArray) (t u A B : Int) (w : World) (ha : a.size ≤ maxLen) (hb : b.size ≤ maxLen) (ha1 : isName a.data.toList = true) (hb1 : isName b.data.toList = true) (ha2 : sameB a.data.toList (⟨#[9, 110, 101, 119, 99, 111, 109, 101, 114, 115, 0]⟩ : ByteArray).data.toList = false) (hb2 : sameB b.data.toList (⟨#[9, 110, 101, 119, 99, 111, 109, 101, 114, 115, 0]⟩ : ByteArray).data.toList = false) (hab : sameB a.data.toList b.data.toList = true) (hA : bits .and .i64 t 7 = A) (A0 : 0 ≤ A) (A8 : A < 8) (hB7 : bits .and .i64 u 7 = B) (B0 : 0 ≤ B) (B8 : B < 8) (hc : cmpN a.data.toList b.data.toList = 0) (hpq : 1 + A < 1 + B) :
    Calls Try.prog 8 #[.string a, .string b, .int .i64 t, .int .i64 u] w fun e w' => e = .returned (.bool true) ∧ Below w.heap.size w w' := by
  have hB : Below w.heap.size w w := Below.refl _ _
  have hne : ¬ (sameB a.data.toList b.data.toList = true ∧ A = B) := by rw [hab]; intro h; omega
  have hord : first_of a.data.toList b.data.toList (1 + A) (1 + B) := .inr ⟨hc, hpq⟩
  have P := plain3 ha1 hb1 ha2 hb2 hne A0 A8 B0 B8
  have HE1 : Hid (errP ⟨a, 1 + A, 5, dX, 3, 50⟩ 4 = 0) := P.e1
  have HE2 : Hid (errP ⟨b, 1 + B, 5, dY, 3, 50⟩ 4 = 0) := P.e2
  have HP1 : Hid (putP 2 [] ⟨a, 1 + A, 5, dX, 3, 50⟩ 4 = [⟨fdB a, 1 + A, 5, dX, 3, 50⟩]) := P.p1
  have HP2 : Hid (putP 2 [⟨fdB a, 1 + A, 5, dX, 3, 50⟩] ⟨b, 1 + B, 5, dY, 3, 50⟩ 4 = [⟨fdB a, 1 + A, 5, dX, 3, 50⟩, ⟨fdB b, 1 + B, 5, dY, 3, 50⟩]) := P.p2
  have HP3 : Hid (putP 2 [⟨fdB a, 1 + A, 5, dX, 3, 50⟩, ⟨fdB b, 1 + B, 5, dY, 3, 50⟩] ⟨⟨#[9, 110, 101, 119, 99, 111, 109, 101, 114, 115, 0]⟩, 1, 5, dZ, 1, 20⟩ 5 = [⟨fdB b, 1 + B, 5, dY, 3, 50⟩, ⟨⟨#[9, 110, 101, 119, 99, 111, 109, 101, 114, 115, 0]⟩, 1, 5, dZ, 1, 20⟩]) := P.p3f hord
  have HE3 : Hid (errP ⟨⟨#[9, 110, 101, 119, 99, 111, 109, 101, 114, 115, 0]⟩, 1, 5, dZ, 1, 20⟩ 5 = 0) := by unfold Hid; decide
  have HGA : Hid (getP [⟨fdB b, 1 + B, 5, dY, 3, 50⟩, ⟨⟨#[9, 110, 101, 119, 99, 111, 109, 101, 114, 115, 0]⟩, 1, 5, dZ, 1, 20⟩] a (1 + A) 6 = none) := P.gaf
  have HGB : Hid (getP [⟨fdB b, 1 + B, 5, dY, 3, 50⟩, ⟨⟨#[9, 110, 101, 119, 99, 111, 109, 101, 114, 115, 0]⟩, 1, 5, dZ, 1, 20⟩] b (1 + B) 6 = some ⟨fdB b, 1 + B, 5, dY, 3, 50⟩) := P.gbf
  have HT : Hid (wrap64 (50 - 6) = 44) := by unfold Hid wrap64; decide
  have hwA : (Lit.int .i64 (1 + A)).wf = true := WalkArith.wf_i64 (by omega)
  have hwB : (Lit.int .i64 (1 + B)).wf = true := WalkArith.wf_i64 (by omega)
  have hcm : ∀ v : World, Calls Try.prog 29 #[.string a, .string b] v fun e w' => e = .returned (.int .i64 (cmpN a.data.toList b.data.toList)) ∧ Below v.heap.size v w' := fun v => refCompare_any a b v ha hb
  rw [hc] at hcm
  have hpq2 : (1 + A == 1 + B) = false := by simp; omega
  clear hc
  clear P hord hne
  have t1 : True := trivial
  have t2 : True := trivial
  have t3 : True := trivial
  have t4 : True := trivial
  have t5 : True := trivial
  have t6 : True := trivial
  have t7 : True := trivial
  have t8 : True := trivial
  have t9 : True := trivial
  go_enter Try.func8, Try.ntmps8
  go_wp2_with (first
    | (go_at_call 11; refine (num_any _ _).mono ?_; rintro e w' ⟨rfl, hw⟩; obtain rfl := hw.symm)
    | (go_at_call 12; go_must (refine (awake_any _).mono ?_); rintro e w1 ⟨rfl, b1⟩; replace hB := next hB b1; clear b1)
    | (go_at_call 24; have _t := t1; go_must (refine (refMay_as a true _ ha ha1).mono ?_); rintro e wn ⟨rfl, bn⟩; replace hB := next hB bn; clear bn t1)
    | (go_at_call 24; have _t := t2; go_must (refine (refMay_as b true _ hb hb1).mono ?_); rintro e wn ⟨rfl, bn⟩; replace hB := next hB bn; clear bn t2)
    | (go_at_call 28; have _t := t3; go_must (refine (refSame_as a ⟨#[9, 110, 101, 119, 99, 111, 109, 101, 114, 115, 0]⟩ false _ ha (by decide) ha2).mono ?_); rintro e wn ⟨rfl, bn⟩; replace hB := next hB bn; clear bn t3)
    | (go_at_call 28; have _t := t4; go_must (refine (refSame_as b ⟨#[9, 110, 101, 119, 99, 111, 109, 101, 114, 115, 0]⟩ false _ hb (by decide) hb2).mono ?_); rintro e wn ⟨rfl, bn⟩; replace hB := next hB bn; clear bn t4)
    | (go_at_call 28; go_must (refine (refSame_as a b true _ ha hb hab).mono ?_); rintro e wn ⟨rfl, bn⟩; replace hB := next hB bn; clear bn)
    | (go_at_call 9; go_must (refine (lw_new hB 2 (by decide) (by decide)).mono ?_); rintro e w2 ⟨gs, rfl, lw2⟩)
    | (go_at_call 25; have _t := t5; go_must (refine (set_any _ _ _ _).mono ?_); rintro e w3 ⟨g3, rfl, k3, _, b3⟩; have hp1 := lw_put (lw2.below b3) a (1 + A) 5 3 50 4 (.slice (some ⟨g3, 0, none⟩) 1 1) dX ha (row_d k3) (by decide) sX 0 HE1.out _ HP1.out; clear b3 k3 t5)
    | (go_at_call 14; have _t := t6; go_must (refine hp1.mono ?_); rintro e w4 ⟨rfl, mb4, L4, lw4, _, _⟩; clear hp1 t6)
    | (go_at_call 25; have _t := t7; go_must (refine (set_any _ _ _ _).mono ?_); rintro e w5 ⟨g5, rfl, k5, _, b5⟩; have hp2 := lw_put (lw4.below b5) b (1 + B) 5 3 50 4 (.slice (some ⟨g5, 0, none⟩) 1 1) dY hb (row_d k5) (by decide) sY 0 HE2.out _ HP2.out; clear b5 k5 t7)
    | (go_at_call 14; have _t := t8; go_must (refine hp2.mono ?_); rintro e w6 ⟨rfl, mb6, L6, lw6, _, _⟩; clear hp2 t8)
    | (go_at_call 25; go_must (refine (set_any _ _ _ _).mono ?_); rintro e w7 ⟨g7, rfl, k7, _, b7⟩; have hp3 := lw_put (lw6.below b7) ⟨#[9, 110, 101, 119, 99, 111, 109, 101, 114, 115, 0]⟩ 1 5 1 20 5 (.slice (some ⟨g7, 0, none⟩) 1 1) dZ (by decide) (row_d k7) (by decide) sZ 0 HE3.out _ HP3.out; clear b7 k7)
    | (go_at_call 14; go_must (refine hp3.mono ?_); rintro e w8 ⟨rfl, mb8, L8, lw8', _, _⟩; clear hp3)
    | (go_at_call 29; go_must (refine (hcm _).mono ?_); rintro e wc ⟨rfl, bc⟩; have lw8 := lw8'.below bc; have hq1 := lw8.get_none a (1 + A) 6 ha hwA HGA.out; skip; clear bc)
    | (go_at_call 18; have _t := t9; go_must (refine hq1.mono ?_); rintro e w9 ⟨rfl, bn⟩; have lw9 := lw8.below (lay bn (.cells #[.string ⟨#[]⟩, .int .i64 0, .int .i64 0, .slice none 0 0] 34)); clear bn t9; have hq2 := lw9.get_some b (1 + B) 6 hb hwB _ HGB.out; simp only [HT.out] at hq2)
    | (go_at_call 18; go_must (refine hq2.mono ?_); rintro e w10 ⟨gn, rfl, on, hgn, bn⟩; have lw10 := lw9.below (lay bn (.cells #[.string (fdB b), .int .i64 (1 + B), .int .i64 44, .slice (some ⟨gn, 0, none⟩) 1 1] 34)); clear bn on)
    | (go_at_call 22; go_must (refine (lw10.all 2 rfl).mono ?_); rintro e w11 ⟨y11, c11, M11, rfl, _, _, _, lw11, _⟩))
  go_ret
  exact ⟨rfl, lw11.bel⟩

set_option maxRecDepth 20000 in
set_option maxHeartbeats 2000000 in
theorem egt (a b : ByteArray) (t u A B : Int) (w : World) (ha : a.size ≤ maxLen) (hb : b.size ≤ maxLen) (ha1 : isName a.data.toList = true) (hb1 : isName b.data.toList = true) (ha2 : sameB a.data.toList (⟨#[9, 110, 101, 119, 99, 111, 109, 101, 114, 115, 0]⟩ : ByteArray).data.toList = false) (hb2 : sameB b.data.toList (⟨#[9, 110, 101, 119, 99, 111, 109, 101, 114, 115, 0]⟩ : ByteArray).data.toList = false) (hab : sameB a.data.toList b.data.toList = true) (hA : bits .and .i64 t 7 = A) (A0 : 0 ≤ A) (A8 : A < 8) (hB7 : bits .and .i64 u 7 = B) (B0 : 0 ≤ B) (B8 : B < 8) (hc : cmpN a.data.toList b.data.toList = 0) (hpq : 1 + B < 1 + A) :
    Calls Try.prog 8 #[.string a, .string b, .int .i64 t, .int .i64 u] w fun e w' => e = .returned (.bool true) ∧ Below w.heap.size w w' := by
  have hB : Below w.heap.size w w := Below.refl _ _
  have hne : ¬ (sameB a.data.toList b.data.toList = true ∧ A = B) := by rw [hab]; intro h; omega
  have hord : last_of a.data.toList b.data.toList (1 + A) (1 + B) := .inr ⟨hc, hpq⟩
  have P := plain3 ha1 hb1 ha2 hb2 hne A0 A8 B0 B8
  have HE1 : Hid (errP ⟨a, 1 + A, 5, dX, 3, 50⟩ 4 = 0) := P.e1
  have HE2 : Hid (errP ⟨b, 1 + B, 5, dY, 3, 50⟩ 4 = 0) := P.e2
  have HP1 : Hid (putP 2 [] ⟨a, 1 + A, 5, dX, 3, 50⟩ 4 = [⟨fdB a, 1 + A, 5, dX, 3, 50⟩]) := P.p1
  have HP2 : Hid (putP 2 [⟨fdB a, 1 + A, 5, dX, 3, 50⟩] ⟨b, 1 + B, 5, dY, 3, 50⟩ 4 = [⟨fdB a, 1 + A, 5, dX, 3, 50⟩, ⟨fdB b, 1 + B, 5, dY, 3, 50⟩]) := P.p2
  have HP3 : Hid (putP 2 [⟨fdB a, 1 + A, 5, dX, 3, 50⟩, ⟨fdB b, 1 + B, 5, dY, 3, 50⟩] ⟨⟨#[9, 110, 101, 119, 99, 111, 109, 101, 114, 115, 0]⟩, 1, 5, dZ, 1, 20⟩ 5 = [⟨fdB a, 1 + A, 5, dX, 3, 50⟩, ⟨⟨#[9, 110, 101, 119, 99, 111, 109, 101, 114, 115, 0]⟩, 1, 5, dZ, 1, 20⟩]) := P.p3l hord
  have HE3 : Hid (errP ⟨⟨#[9, 110, 101, 119, 99, 111, 109, 101, 114, 115, 0]⟩, 1, 5, dZ, 1, 20⟩ 5 = 0) := by unfold Hid; decide
  have HGA : Hid (getP [⟨fdB a, 1 + A, 5, dX, 3, 50⟩, ⟨⟨#[9, 110, 101, 119, 99, 111, 109, 101, 114, 115, 0]⟩, 1, 5, dZ, 1, 20⟩] a (1 + A) 6 = some ⟨fdB a, 1 + A, 5, dX, 3, 50⟩) := P.gal
  have HGB : Hid (getP [⟨fdB a, 1 + A, 5, dX, 3, 50⟩, ⟨⟨#[9, 110, 101, 119, 99, 111, 109, 101, 114, 115, 0]⟩, 1, 5, dZ, 1, 20⟩] b (1 + B) 6 = none) := P.gbl
  have HT : Hid (wrap64 (50 - 6) = 44) := by unfold Hid wrap64; decide
  have hwA : (Lit.int .i64 (1 + A)).wf = true := WalkArith.wf_i64 (by omega)
  have hwB : (Lit.int .i64 (1 + B)).wf = true := WalkArith.wf_i64 (by omega)
  have hcm : ∀ v : World, Calls Try.prog 29 #[.string a, .string b] v fun e w' => e = .returned (.int .i64 (cmpN a.data.toList b.data.toList)) ∧ Below v.heap.size v w' := fun v => refCompare_any a b v ha hb
  rw [hc] at hcm
  have hpq2 : (1 + A == 1 + B) = false := by simp; omega
  have hpq3 : decide (1 + A < 1 + B) = false := by simp; omega
  have hpq4 : decide (A < B) = false := by simp; omega
  clear hc
  clear P hord hne
  have t1 : True := trivial
  have t2 : True := trivial
  have t3 : True := trivial
  have t4 : True := trivial
  have t5 : True := trivial
  have t6 : True := trivial
  have t7 : True := trivial
  have t8 : True := trivial
  have t9 : True := trivial
  go_enter Try.func8, Try.ntmps8
  go_wp2_with (first
    | (go_at_call 11; refine (num_any _ _).mono ?_; rintro e w' ⟨rfl, hw⟩; obtain rfl := hw.symm)
    | (go_at_call 12; go_must (refine (awake_any _).mono ?_); rintro e w1 ⟨rfl, b1⟩; replace hB := next hB b1; clear b1)
    | (go_at_call 24; have _t := t1; go_must (refine (refMay_as a true _ ha ha1).mono ?_); rintro e wn ⟨rfl, bn⟩; replace hB := next hB bn; clear bn t1)
    | (go_at_call 24; have _t := t2; go_must (refine (refMay_as b true _ hb hb1).mono ?_); rintro e wn ⟨rfl, bn⟩; replace hB := next hB bn; clear bn t2)
    | (go_at_call 28; have _t := t3; go_must (refine (refSame_as a ⟨#[9, 110, 101, 119, 99, 111, 109, 101, 114, 115, 0]⟩ false _ ha (by decide) ha2).mono ?_); rintro e wn ⟨rfl, bn⟩; replace hB := next hB bn; clear bn t3)
    | (go_at_call 28; have _t := t4; go_must (refine (refSame_as b ⟨#[9, 110, 101, 119, 99, 111, 109, 101, 114, 115, 0]⟩ false _ hb (by decide) hb2).mono ?_); rintro e wn ⟨rfl, bn⟩; replace hB := next hB bn; clear bn t4)
    | (go_at_call 28; go_must (refine (refSame_as a b true _ ha hb hab).mono ?_); rintro e wn ⟨rfl, bn⟩; replace hB := next hB bn; clear bn)
    | (go_at_call 9; go_must (refine (lw_new hB 2 (by decide) (by decide)).mono ?_); rintro e w2 ⟨gs, rfl, lw2⟩)
    | (go_at_call 25; have _t := t5; go_must (refine (set_any _ _ _ _).mono ?_); rintro e w3 ⟨g3, rfl, k3, _, b3⟩; have hp1 := lw_put (lw2.below b3) a (1 + A) 5 3 50 4 (.slice (some ⟨g3, 0, none⟩) 1 1) dX ha (row_d k3) (by decide) sX 0 HE1.out _ HP1.out; clear b3 k3 t5)
    | (go_at_call 14; have _t := t6; go_must (refine hp1.mono ?_); rintro e w4 ⟨rfl, mb4, L4, lw4, _, _⟩; clear hp1 t6)
    | (go_at_call 25; have _t := t7; go_must (refine (set_any _ _ _ _).mono ?_); rintro e w5 ⟨g5, rfl, k5, _, b5⟩; have hp2 := lw_put (lw4.below b5) b (1 + B) 5 3 50 4 (.slice (some ⟨g5, 0, none⟩) 1 1) dY hb (row_d k5) (by decide) sY 0 HE2.out _ HP2.out; clear b5 k5 t7)
    | (go_at_call 14; have _t := t8; go_must (refine hp2.mono ?_); rintro e w6 ⟨rfl, mb6, L6, lw6, _, _⟩; clear hp2 t8)
    | (go_at_call 25; go_must (refine (set_any _ _ _ _).mono ?_); rintro e w7 ⟨g7, rfl, k7, _, b7⟩; have hp3 := lw_put (lw6.below b7) ⟨#[9, 110, 101, 119, 99, 111, 109, 101, 114, 115, 0]⟩ 1 5 1 20 5 (.slice (some ⟨g7, 0, none⟩) 1 1) dZ (by decide) (row_d k7) (by decide) sZ 0 HE3.out _ HP3.out; clear b7 k7)
    | (go_at_call 14; go_must (refine hp3.mono ?_); rintro e w8 ⟨rfl, mb8, L8, lw8', _, _⟩; clear hp3)
    | (go_at_call 29; go_must (refine (hcm _).mono ?_); rintro e wc ⟨rfl, bc⟩; have lw8 := lw8'.below bc; have hq1 := lw8.get_some a (1 + A) 6 ha hwA _ HGA.out; simp only [HT.out] at hq1; clear bc)
    | (go_at_call 18; have _t := t9; go_must (refine hq1.mono ?_); rintro e w9 ⟨gn, rfl, on, hgn, bn⟩; have lw9 := lw8.below (lay bn (.cells #[.string (fdB a), .int .i64 (1 + A), .int .i64 44, .slice (some ⟨gn, 0, none⟩) 1 1] 34)); clear bn on t9; have hq2 := lw9.get_none b (1 + B) 6 hb hwB HGB.out; skip)
    | (go_at_call 18; go_must (refine hq2.mono ?_); rintro e w10 ⟨rfl, bn⟩; have lw10 := lw9.below (lay bn (.cells #[.string ⟨#[]⟩, .int .i64 0, .int .i64 0, .slice none 0 0] 34)); clear bn)
    | (go_at_call 22; go_must (refine (lw10.all 2 rfl).mono ?_); rintro e w11 ⟨y11, c11, M11, rfl, _, _, _, lw11, _⟩))
  go_ret
  exact ⟨rfl, lw11.bel⟩

theorem walk (a b : ByteArray) (t u : Int) (ha : a.size ≤ maxLen) (hb : b.size ≤ maxLen) (_ : (Lit.int .i64 t).wf = true) (_ : (Lit.int .i64 u).wf = true) (w : World) :
    Calls Try.prog 8 #[.string a, .string b, .int .i64 t, .int .i64 u] w fun e w' => e = .returned (.bool true) ∧ Below w.heap.size w w' := by
  have k1 := mask t 3 (by decide)
  have k2 := mask u 3 (by decide)
  have e1 : 0 ≤ t % ((2 ^ 3 : Nat) : Int) ∧ t % ((2 ^ 3 : Nat) : Int) < 8 := by omega
  have e2 : 0 ≤ u % ((2 ^ 3 : Nat) : Int) ∧ u % ((2 ^ 3 : Nat) : Int) < 8 := by omega
  cases ha1 : isName a.data.toList with
  | false => exact no1 a b t u w ha hb ha1
  | true =>
    cases hb1 : isName b.data.toList with
    | false => exact no2 a b t u w ha hb ha1 hb1
    | true =>
      cases ha2 : sameB a.data.toList (⟨#[9, 110, 101, 119, 99, 111, 109, 101, 114, 115, 0]⟩ : ByteArray).data.toList with
      | true => exact no3 a b t u w ha hb ha1 hb1 ha2
      | false =>
        cases hb2 : sameB b.data.toList (⟨#[9, 110, 101, 119, 99, 111, 109, 101, 114, 115, 0]⟩ : ByteArray).data.toList with
        | true => exact no4 a b t u w ha hb ha1 hb1 ha2 hb2
        | false =>
          have hs := same_cmp ha1 hb1
          by_cases hc : cmpN a.data.toList b.data.toList = 0
          · have hab : sameB a.data.toList b.data.toList = true := by rw [hs, hc]; rfl
            by_cases hpq : t % ((2 ^ 3 : Nat) : Int) = u % ((2 ^ 3 : Nat) : Int)
            · exact no5 a b t u w ha hb ha1 hb1 ha2 hb2 hab _ k1 (by rw [hpq]; exact k2) e1.1 e1.2
            · by_cases hl : 1 + t % ((2 ^ 3 : Nat) : Int) < 1 + u % ((2 ^ 3 : Nat) : Int)
              · exact elt a b t u _ _ w ha hb ha1 hb1 ha2 hb2 hab k1 e1.1 e1.2 k2 e2.1 e2.2 hc hl
              · exact egt a b t u _ _ w ha hb ha1 hb1 ha2 hb2 hab k1 e1.1 e1.2 k2 e2.1 e2.2 hc (by omega)
          · have hab : sameB a.data.toList b.data.toList = false := by rw [hs]; simpa using hc
            by_cases hl : cmpN a.data.toList b.data.toList < 0
            · exact Go.Proofs.Ytcmhjlflgedcdaa.storeTies.lt a b t u _ _ w ha hb ha1 hb1 ha2 hb2 hab k1 e1.1 e1.2 k2 e2.1 e2.2 hl
            · exact gt a b t u _ _ w ha hb ha1 hb1 ha2 hb2 hab k1 e1.1 e1.2 k2 e2.1 e2.2 (by omega)

theorem own : ownKnob Try.prog.godebug = none := by kernel_rfl

set_option maxRecDepth 100000 in
theorem lifted (os : Os) (started : os.Started) (H : Type) (enc : TypeId × Value → H) :
    ReturnsInHanded {} Try.checked os 8 .any (Rows.storeTiesSpec.pre6 enc Try.prog Try.f8 Rows.storeTiesRow.domain false) (Rows.storeTiesSpec.post enc Try.prog Try.f8 false true false false) := by
  refine returnsInHanded_of_change (C := Try.checked) own started (by kernel_rfl) Try.func8
    (ChangeSpec.witness6 (enc := enc) (C := Try.checked) false ⟨#[], #[.string ByteArray.empty, .string ByteArray.empty, .int .i64 0, .int .i64 0], []⟩ 8 (by kernel_rfl) (by kernel_rfl) (by kernel_rfl) (by kernel_rfl)) ?_
  intro W base args ds gs before hval0 hW _ _
  have hval : ∀ (j : Nat) t v, Try.f8.params[j]? = some t → args[j]? = some v → Value.okWide Try.prog W .any base t v := hval0
  have hW' := hW
  obtain ⟨p, q, hA0, hV, rfl, hfz, hnd⟩ := hW
  have hA : DataW.TrodAll enc Try.prog W 0 (fun _ => true) true Try.f8.params.toList args.toList ds p := hA0
  rw [Try.params8] at hA hval
  obtain ⟨v0, vs0, d0, ds0, p0, q0, hargs, rfl, rfl, h0, r0⟩ := trodAll_cons hA
  obtain ⟨v1, vs1, d1, ds1, p1, q1, rfl, rfl, rfl, h1, r1⟩ := trodAll_cons r0
  obtain ⟨v2, vs2, d2, ds2, p2, q2, rfl, rfl, rfl, h2, r2⟩ := trodAll_cons r1
  obtain ⟨v3, vs3, d3, ds3, p3, q3, rfl, rfl, rfl, h3, r3⟩ := trodAll_cons r2
  obtain ⟨rfl, rfl, rfl⟩ := trodAll_nil r3
  obtain rfl : args = #[v0, v1, v2, v3] := by cases args; simp_all
  obtain ⟨rfl, rfl⟩ := trodVars_none hV
  obtain ⟨a0, rfl, rfl, rfl, w0⟩ := open_string Try.underlying9 (hval 0 9 v0 rfl rfl) h0
  obtain ⟨a1, rfl, rfl, rfl, w1⟩ := open_string Try.underlying9 (hval 1 9 v1 rfl rfl) h1
  obtain ⟨a2, rfl, rfl, rfl, w2⟩ := open_int Try.underlying3 (hval 2 3 v2 rfl rfl) h2
  obtain ⟨a3, rfl, rfl, rfl, w3⟩ := open_int Try.underlying3 (hval 3 3 v3 rfl rfl) h3
  clear hA0 hval0
  simp only [List.append_nil] at hW'
  refine (walk a0 a1 a2 a3 w0 w1 w2 w3 W ).mono fun e W' ⟨he, bel⟩ => ?_
  subst he
  exact ⟨_, rfl, _, _, _, [], [], [], hW', trodAll_mk1 (shut_bool Try.underlying4 _), (trodAll_cons_mk (shut_string Try.underlying9 w0) (trodAll_cons_mk (shut_string Try.underlying9 w1) (trodAll_cons_mk (shut_int Try.underlying3 w2) (trodAll_cons_mk (shut_int Try.underlying3 w3) trodAll_mk0)))), rfl, bel.frame _, fun h => by cases h⟩

/-- The statement. -/
theorem proved : Rows.StoreTiesSaid :=
  OpenClaim.holds_of_wide 8 Try.f8 rfl rfl rfl rfl rfl rfl rfl ⟨rfl, rfl, rfl, rfl, rfl⟩ rfl rfl rfl rfl rfl (by kernel_rfl) Try.func8 (by kernel_rfl)
    (of_decide_eq_true (by kernel_rfl)) (by unfold Func.isWrapper; first | (rw [if_pos (by decide +kernel)]; kernel_rfl) | (rw [if_neg (by decide +kernel)]; exact ⟨rfl, rfl⟩))
    (fun os started H enc _ => lifted os started H enc)
#print axioms proved


end Go.Proofs.Ytcmhjlflgedcdaa.storeTies
