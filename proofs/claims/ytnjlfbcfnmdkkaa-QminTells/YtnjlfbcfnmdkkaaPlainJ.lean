/- The order of names, label by label from the end: plain facts on bytes, with no word of the program. -/
import Derived.Test.YtnjlfbcfnmdkkaaPlainI
namespace Go.Proofs.Ytnjlfbcfnmdkkaa.Pl

theorem fl_at (l : List UInt8) (k : Nat) (h1 : 1 ≤ k) (hk : k ≤ (labs l).length) : (fl l)[k - 1]'(by rw [fl_len]; omega) = foldL ((labs l)[(labs l).length - k]'(by omega)) := by
  unfold fl
  rw [List.getElem_reverse, List.getElem_map]
  congr 2
  simp
  omega

theorem cmp_start (a b : List UInt8) : cmpN a b = lexG (lexG cB) ((fl a).drop (1 - 1)) ((fl b).drop (1 - 1)) := rfl

theorem cmp_step {a b : List UInt8} {k : Nat} (h : cmpN a b = lexG (lexG cB) ((fl a).drop (k - 1)) ((fl b).drop (k - 1))) (h1 : 1 ≤ k) (ha : k ≤ (labs a).length) (hb : k ≤ (labs b).length) :
    cmpN a b = if ord ((labs a)[(labs a).length - k]'(by omega)) ((labs b)[(labs b).length - k]'(by omega)) = 0 then lexG (lexG cB) ((fl a).drop k) ((fl b).drop k) else ord ((labs a)[(labs a).length - k]'(by omega)) ((labs b)[(labs b).length - k]'(by omega)) := by
  rw [h, lexG_drop ord_ord _ _ (k - 1) (by rw [fl_len]; omega) (by rw [fl_len]; omega), fl_at a k h1 ha, fl_at b k h1 hb, show k - 1 + 1 = k from by omega]
  rfl

theorem cmp_next {a b : List UInt8} {k : Nat} (h : cmpN a b = lexG (lexG cB) ((fl a).drop (k - 1)) ((fl b).drop (k - 1))) (h1 : 1 ≤ k) (ha : k ≤ (labs a).length) (hb : k ≤ (labs b).length)
    (hz : ord ((labs a)[(labs a).length - k]'(by omega)) ((labs b)[(labs b).length - k]'(by omega)) = 0) : cmpN a b = lexG (lexG cB) ((fl a).drop (k + 1 - 1)) ((fl b).drop (k + 1 - 1)) := by
  rw [cmp_step h h1 ha hb, if_pos hz, show k + 1 - 1 = k from by omega]
theorem cmp_here {a b : List UInt8} {k : Nat} (h : cmpN a b = lexG (lexG cB) ((fl a).drop (k - 1)) ((fl b).drop (k - 1))) (h1 : 1 ≤ k) (ha : k ≤ (labs a).length) (hb : k ≤ (labs b).length)
    (hz : ord ((labs a)[(labs a).length - k]'(by omega)) ((labs b)[(labs b).length - k]'(by omega)) ≠ 0) : ord ((labs a)[(labs a).length - k]'(by omega)) ((labs b)[(labs b).length - k]'(by omega)) = cmpN a b := by
  rw [cmp_step h h1 ha hb, if_neg hz]
theorem cmp_end {a b : List UInt8} {k : Nat} (h : cmpN a b = lexG (lexG cB) ((fl a).drop (k - 1)) ((fl b).drop (k - 1))) (hk : k - 1 = (labs a).length ∨ k - 1 = (labs b).length) (ha : k - 1 ≤ (labs a).length) (hb : k - 1 ≤ (labs b).length) :
    sgn ((labs a).length : Int) ((labs b).length : Int) = cmpN a b := by
  rw [h, lexG_end _ _ (k - 1) (by rw [fl_len, fl_len]; exact hk) (by rw [fl_len]; exact ha) (by rw [fl_len]; exact hb), fl_len, fl_len]

theorem root_name : isName [0] = true := by decide
theorem root_labs : labs [0] = [] := by decide

/-- A name, or the root in its place. -/
def orR (l : List UInt8) : List UInt8 := if isName l = true then l else [0]
theorem orR_name (l : List UInt8) : isName (orR l) = true := by
  unfold orR; split
  · assumption
  · exact root_name
theorem orR_labs (l : List UInt8) : labs (orR l) = labs l := by
  unfold orR; split
  · rfl
  · rename_i h
    rw [root_labs, labs_none (by simpa using h)]
theorem orR_cmp (a b : List UInt8) : cmpN (orR a) (orR b) = cmpN a b := by unfold cmpN fl; rw [orR_labs, orR_labs]

theorem above_few {a b : List UInt8} (h : (labs b).length < (labs a).length) : aboveB a b = false := by
  unfold aboveB
  rw [show decide ((labs a).length ≤ (labs b).length) = false from by simp; omega]
  simp

end Go.Proofs.Ytnjlfbcfnmdkkaa.Pl
