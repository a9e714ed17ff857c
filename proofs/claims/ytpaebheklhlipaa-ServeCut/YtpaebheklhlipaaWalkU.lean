/- What Compare of the document's answers gives, for every two strings. -/
import Derived.Test.YtpaebheklhlipaaWalkT
import Derived.LoopN
namespace Go.Proofs.Ytpaebheklhlipaa
open Go.RowKit
open Pl

theorem less_lex : ∀ x y : List UInt8, Op.bytesLess x y = decide (lexG cB x y = -1) := by
  intro x
  induction x with
  | nil =>
    intro y
    cases y with
    | nil => simp [Op.bytesLess, lexG]
    | cons b y => simp [Op.bytesLess, lexG]
  | cons a x ih =>
    intro y
    cases y with
    | nil => simp [Op.bytesLess, lexG]
    | cons b y =>
      rw [Op.bytesLess, ih y, lexG]
      have hl : decide (a < b) = decide (a.toNat < b.toNat) := by rw [Bool.eq_iff_iff]; simp [UInt8.lt_iff_toNat_lt]
      have he : (a == b) = decide (a.toNat = b.toNat) := by rw [Bool.eq_iff_iff]; simp [UInt8.toNat_inj]
      rw [hl, he]
      unfold cB sgn
      rcases Nat.lt_trichotomy a.toNat b.toNat with h | h | h
      · have h1 : (a.toNat : Int) < (b.toNat : Int) := by omega
        have h2 : ¬ a.toNat = b.toNat := by omega
        simp [h, h2]
      · have h1 : ¬ a.toNat < b.toNat := by omega
        have h2 : ¬ b.toNat < a.toNat := by omega
        simp [h]
      · have h1 : ¬ a.toNat < b.toNat := by omega
        have h2 : ¬ a.toNat = b.toNat := by omega
        simp [h, h1, h2]

/-- A row of strings, as a slice and its cells. -/
theorem str_row {w : World} {base n : Nat} {v : Value} {ss : List ByteArray} (h : w.ownsRow base 9 1 v n (ss.map Value.string)) :
    ∃ a c, v = .slice a n c ∧ (n = 0 ∨ ∃ g, a = some ⟨g, 0, none⟩ ∧ ∀ j (hj : j < ss.length), w.cell? ⟨g, j, none⟩ = some (.string ss[j])) := by
  rcases h.2 with ⟨rfl, rfl⟩ | ⟨g, cap, cur, rfl, hb, hg, hnc, hm, hcs, htake⟩
  · exact ⟨none, 0, rfl, .inl rfl⟩
  · refine ⟨_, _, rfl, .inr ⟨g, rfl, fun j hj => ?_⟩⟩
    have hn : ss.length = n := by simpa using h.1
    rw [h.cellAt j (by omega)]
    simp [hj]

theorem cmpK_start (a b : List UInt8) : cmpN a b = lexG (lexG cB) ((fl a).drop 0) ((fl b).drop 0) := rfl

theorem cmpK_step {a b : List UInt8} {ss tt : List ByteArray} {k : Nat} (ha : Strs a ss) (hb : Strs b tt) (h : cmpN a b = lexG (lexG cB) ((fl a).drop k) ((fl b).drop k)) (h1 : k < ss.length) (h2 : k < tt.length) :
    cmpN a b = if lexG cB ss[k].data.toList tt[k].data.toList = 0 then lexG (lexG cB) ((fl a).drop (k + 1)) ((fl b).drop (k + 1)) else lexG cB ss[k].data.toList tt[k].data.toList := by
  unfold Strs at ha hb
  have l1 : (fl a).length = ss.length := by rw [← ha]; simp
  have l2 : (fl b).length = tt.length := by rw [← hb]; simp
  rw [h, lexG_drop ord_ord _ _ k (by omega) (by omega)]
  have e : ∀ (l : List (List UInt8)) (rs : List ByteArray) (i : Nat) (hi : i < l.length) (hj : i < rs.length), rs.map (fun s => s.data.toList) = l → l[i] = rs[i].data.toList := by
    intro l rs i hi hj e; subst e; simp
  rw [e _ _ _ (by omega) h1 ha, e _ _ _ (by omega) h2 hb]

theorem less_as {X Y : ByteArray} {b : Bool} (h : decide (lexG cB X.data.toList Y.data.toList = -1) = b) : Op.bytesLess X.toList Y.toList = b := by
  rw [ByteArray.toList_eq, ByteArray.toList_eq, less_lex]; exact h
theorem gtr_as {X Y : ByteArray} {b : Bool} (h : decide (lexG cB X.data.toList Y.data.toList = 1) = b) : binOp .gtr 9 (.string X) (.string Y) = pure (.bool b) := by
  have e : binOp .gtr 9 (.string X) (.string Y) = pure (.bool !(Op.bytesLess X.toList Y.toList || X.toList == Y.toList)) := by simp [binOp, Op.stringOp]
  rw [e, ← h, ByteArray.toList_eq, ByteArray.toList_eq, less_lex]
  congr 2
  rw [Bool.eq_iff_iff]
  have hz := ord_ord.zero X.data.toList Y.data.toList
  rcases ord_ord.three X.data.toList Y.data.toList with h3 | h3 | h3
  · rw [h3]; simp
  · have := hz.1 h3
    rw [h3]; simp [this]
  · have hne : X.data.toList ≠ Y.data.toList := fun e => by have := hz.2 e; omega
    rw [h3]; simp; exact fun e => hne (by rw [e])

end Go.Proofs.Ytpaebheklhlipaa
