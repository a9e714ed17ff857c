/- Rows of names in order: plain facts, with no word of the program. -/
import Derived.Test.YtfojghfdmlaedaaPlainK
namespace Go.Proofs.Ytfojghfdmlaedaa.Pl

/-- One name comes not behind another. -/
def NotBehind (x y : ByteArray) : Prop := cmpN x.data.toList y.data.toList ≤ 0
/-- Names in order. -/
def InRow (ss : List ByteArray) : Prop := ss.Pairwise NotBehind ∧ ∀ s ∈ ss, isName s.data.toList = true

theorem row_nil : InRow [] := ⟨List.Pairwise.nil, fun s h => by simp at h⟩

/-- A name laid in its place. -/
theorem row_ins {ss : List ByteArray} {x : ByteArray} {k : Nat} (h : InRow ss) (hx : isName x.data.toList = true) (h1 : ∀ y ∈ ss.take k, NotBehind y x) (h2 : ∀ y ∈ ss.drop k, NotBehind x y) : InRow (ss.take k ++ [x] ++ ss.drop k) := by
  obtain ⟨hp, hn⟩ := h
  have hs : ss.take k ++ ss.drop k = ss := List.take_append_drop k ss
  rw [← hs] at hp
  obtain ⟨p1, p2, p3⟩ := List.pairwise_append.1 hp
  refine ⟨?_, ?_⟩
  · refine List.pairwise_append.2 ⟨List.pairwise_append.2 ⟨p1, List.pairwise_singleton _ _, fun a ha b hb => ?_⟩, p2, fun a ha b hb => ?_⟩
    · simp at hb; subst hb; exact h1 a ha
    · rcases List.mem_append.1 ha with ha | ha
      · exact p3 a ha b hb
      · simp at ha; subst ha; exact h2 b hb
  · intro s hs'
    rcases List.mem_append.1 hs' with h3 | h3
    · rcases List.mem_append.1 h3 with h4 | h4
      · exact hn s (List.mem_of_mem_take h4)
      · simp at h4; subst h4; exact hx
    · exact hn s (List.mem_of_mem_drop h3)

/-- Behind the place where a name comes behind x, all names do. -/
theorem row_rest {ss : List ByteArray} {x : ByteArray} {k : Nat} (h : InRow ss) (hk : k < ss.length) (hc : 0 < cmpN ss[k].data.toList x.data.toList) : ∀ y ∈ ss.drop k, NotBehind x y := by
  intro y hy
  have h0 : cmpN x.data.toList ss[k].data.toList ≤ 0 := by rw [cmp_anti]; omega
  have hp : (ss.drop k).Pairwise NotBehind := List.Pairwise.sublist (List.drop_sublist k ss) h.1
  rw [List.drop_eq_getElem_cons hk] at hy hp
  rcases List.mem_cons.1 hy with rfl | hy
  · exact h0
  · exact cmp_trans h0 ((List.pairwise_cons.1 hp).1 y hy)

theorem row_step {ss : List ByteArray} {x : ByteArray} {k : Nat} (hk : k < ss.length) (h : ∀ y ∈ ss.take k, NotBehind y x) (hc : cmpN ss[k].data.toList x.data.toList ≤ 0) : ∀ y ∈ ss.take (k + 1), NotBehind y x := by
  intro y hy
  rw [List.take_succ_eq_append_getElem hk] at hy
  rcases List.mem_append.1 hy with hy | hy
  · exact h y hy
  · simp at hy; subst hy; exact hc

theorem row_cmp {ss : List ByteArray} (h : InRow ss) {i j : Nat} (hij : i < j) (hj : j < ss.length) : cmpN (ss[i]'(by omega)).data.toList ss[j].data.toList ≤ 0 :=
  List.pairwise_iff_getElem.1 h.1 i j (by omega) hj hij

/-- What is beneath a name stands together. -/
theorem row_above {ss : List ByteArray} (h : InRow ss) {i j m : Nat} (hij : i < j) (hjm : j < m) (hm : m < ss.length) (ha : aboveB (ss[i]'(by omega)).data.toList ss[m].data.toList = true) : aboveB (ss[i]'(by omega)).data.toList (ss[j]'(by omega)).data.toList = true := by
  rw [above_iff] at ha ⊢
  refine ⟨ha.1, h.2 _ (List.getElem_mem _), ?_⟩
  exact lexG_between ord_ord _ _ _ ha.2.2 (row_cmp h hij (by omega)) (row_cmp h hjm hm)

end Go.Proofs.Ytfojghfdmlaedaa.Pl
