/- Stores of few entries, plainly. -/
import Derived.Test.YtcmhjlflgedcdaaXP7
namespace Go.Proofs.Ytcmhjlflgedcdaa
open Go.RowKit
open Pl

theorem may_yes {e : En} {now : Int} (h1 : isName e.n.data.toList = true) (h2 : 1 ≤ e.t) (h3 : e.t ≤ 65535) (h4 : e.ds ≠ []) (h5 : 1 ≤ e.r) (h6 : e.r ≤ 3) (h7 : now < e.u) (h8 : 0 ≤ now) (h9 : now ≤ 1099511627776) : mayE e now = true := by
  unfold mayE
  simp only [Bool.and_eq_true, decide_eq_true_eq]
  exact ⟨⟨⟨⟨⟨⟨⟨⟨h1, h2⟩, h3⟩, h4⟩, h5⟩, h6⟩, h7⟩, h8⟩, h9⟩
theorem err_yes {e : En} {now : Int} (h : mayE e now = true) : errP e now = 0 := by unfold errP; rw [h]; rfl
theorem put_none {most : Nat} {e : En} {now : Int} (h : mayE e now = true) (hm : 1 ≤ most) : putP most [] e now = [heldE e] := by
  unfold putP beatsP leftP cutP
  rw [h]
  have : ¬ 0 = most := by omega
  simp [this]
theorem put_stay {most : Nat} {x e : En} {now : Int} (h : mayE e now = true) (hk : sameK (fdB e.n) e.t x = true) (hl : now < x.u) (hr : e.r < x.r) : putP most [x] e now = [x] := by
  unfold putP beatsP
  simp [h, hk, hl, hr]
theorem put_over {most : Nat} {x e : En} {now : Int} (h : mayE e now = true) (hk : sameK (fdB e.n) e.t x = true) (hn : ¬ (now < x.u ∧ e.r < x.r)) (hm : 1 ≤ most) : putP most [x] e now = [heldE e] := by
  have hb : beatsP [x] (fdB e.n) e.t e.r now = false := by
    unfold beatsP
    simp only [List.any_cons, List.any_nil, Bool.or_false, hk, Bool.true_and]
    simpa using hn
  have hl : leftP [x] (fdB e.n) e.t now = [] := by unfold leftP; simp [hk]
  unfold putP
  rw [h, hb, hl]
  unfold cutP
  have : ¬ 0 = most := by omega
  simp [this]
theorem get_one {x : En} {n : ByteArray} {t now : Int} (hk : sameK (fdB n) t x = true) (hl : now < x.u) : getP [x] n t now = some x := by
  unfold getP
  simp [hk, hl]
theorem get_late {F : List En} {n : ByteArray} {t now : Int} (h : ∀ x ∈ F, sameK (fdB n) t x = true → x.u ≤ now) : getP F n t now = none := by
  unfold getP
  rw [List.find?_eq_none]
  intro x hx
  cases hk : sameK (fdB n) t x with
  | false => simp
  | true => have := h x hx hk; simp; omega
theorem max_name {n : ByteArray} (h : isName n.data.toList = true) : n.size ≤ maxLen := by
  have := (name_some h).1
  have := data_len n
  unfold maxLen
  omega

end Go.Proofs.Ytcmhjlflgedcdaa
