/- Rules that the order of names and what is above what keep: plain facts on bytes, with no word of the program. -/
import Derived.Test.YtnjlfbcfnmdkkaaPlainJ
namespace Go.Proofs.Ytnjlfbcfnmdkkaa.Pl

theorem cmp_three (a b : List UInt8) : -1 ≤ cmpN a b ∧ cmpN a b ≤ 1 := by
  rcases cmp_ord.three (fl a) (fl b) with h | h | h <;> (unfold cmpN; omega)
theorem cmp_anti (a b : List UInt8) : cmpN b a = - cmpN a b := cmp_ord.anti _ _
theorem cmp_trans {a b c : List UInt8} (h1 : cmpN a b ≤ 0) (h2 : cmpN b c ≤ 0) : cmpN a c ≤ 0 := cmp_ord.trans _ _ _ h1 h2
theorem cmp_self (a : List UInt8) : cmpN a a = 0 := (cmp_zero a a).2 rfl
theorem same_cmp {a b : List UInt8} (ha : isName a = true) (hb : isName b = true) : sameB a b = (cmpN a b == 0) := by
  rw [Bool.eq_iff_iff, same_iff]
  simp [ha, hb, cmp_zero]
theorem above_root {a : List UInt8} (ha : isName a = true) : aboveB [0] a = true := by
  rw [above_iff]
  refine ⟨root_name, ha, ?_⟩
  unfold fl
  rw [root_labs]
  exact List.nil_prefix
theorem same_fold {a : List UInt8} (ha : isName a = true) : sameB a (foldL a) = true := by
  rw [same_iff]
  exact ⟨ha, by rw [name_fold]; exact ha, (fl_fold a).symm⟩
theorem above_trans {a b c : List UInt8} (h1 : aboveB a b = true) (h2 : aboveB b c = true) : aboveB a c = true := by
  rw [above_iff] at *
  exact ⟨h1.1, h2.2.1, h1.2.2.trans h2.2.2⟩
theorem above_self {a : List UInt8} (ha : isName a = true) : aboveB a a = true := by
  rw [above_iff]; exact ⟨ha, ha, List.prefix_refl _⟩

/-- A label ahead of a name. -/
theorem child_some {x l t : List UInt8} (h : childR x l = some t) : isName l = true ∧ isName t = true ∧ labs t = x :: labs l ∧ t.length = 1 + x.length + l.length ∧ 1 ≤ x.length ∧ x.length ≤ 63 ∧ t.length ≤ 255 := by
  unfold childR at h
  split at h
  · rename_i hc
    obtain ⟨h1, h2, h3, h4⟩ := hc
    have ht := (Option.some.inj h).symm
    obtain ⟨e1, e2, e3, e4⟩ := enc_of h3
    have e5 : t = enc (x :: labs l) := by rw [ht, enc_cons, ← e1]
    have hg : GoodL (x :: labs l) := by
      intro y hy
      rcases List.mem_cons.1 hy with rfl | hy
      · exact ⟨h1, h2⟩
      · exact e2 y hy
    have hlen : t.length = 1 + x.length + l.length := by rw [ht]; simp; omega
    have := name_enc hg (by rw [← e5, hlen]; exact h4)
    rw [← e5] at this
    exact ⟨h3, this.1, this.2.2, hlen, h1, h2, by omega⟩
  · simp at h

theorem child_par {x l t : List UInt8} (h : childR x l = some t) : parR t = some l := by
  obtain ⟨h1, h2, h3, _⟩ := child_some h
  unfold parR
  rw [if_pos ⟨h2, by rw [h3]; simp⟩, h3]
  simp
  exact (enc_of h1).1.symm
theorem child_fl {x l t : List UInt8} (h : childR x l = some t) : fl t = fl l ++ [foldL x] := by
  obtain ⟨_, _, h3, _⟩ := child_some h
  unfold fl
  rw [h3]; simp
theorem child_above {x l t : List UInt8} (h : childR x l = some t) : aboveB l t = true := by
  obtain ⟨h1, h2, _⟩ := child_some h
  rw [above_iff]
  refine ⟨h1, h2, ?_⟩
  rw [child_fl h]
  exact List.prefix_append _ _
theorem child_below {x l t : List UInt8} (h : childR x l = some t) : aboveB t l = false := by
  obtain ⟨h1, h2, h3, _⟩ := child_some h
  exact above_few (by rw [h3]; simp)
theorem child_cmp {x l t : List UInt8} (h : childR x l = some t) : cmpN l t = -1 := by
  unfold cmpN
  rw [child_fl h]
  exact lexG_more ord_ord _ _ (by simp)

end Go.Proofs.Ytnjlfbcfnmdkkaa.Pl
