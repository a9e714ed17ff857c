/- What Find of package opt gives. -/
import Derived.Test.YtcapankhobnfeaaXOpF
namespace Go.Proofs.Ytcapankhobnfeaa
open Go.RowKit

theorem optL_snoc (a : List Rc) (r : Rc) : optL (a ++ [r]) = optL a ++ (if r.t == 41 then [r] else []) := by
  unfold optL
  rw [List.filter_append]
  cases h : (r.t == 41) <;> simp [h]
theorem fin_other {rs : List Rc} {k : Nat} (hk : k < rs.length) (h : (rs[k].t == 41) = false) : finO (rs.take (k + 1)) = finO (rs.take k) ∧ finN (rs.take (k + 1)) = finN (rs.take k) := by
  unfold finO finN
  rw [List.take_succ_eq_append_getElem hk, optL_snoc, h]
  simp
theorem fin_first {rs : List Rc} {k : Nat} (hk : k < rs.length) (h : (rs[k].t == 41) = true) (h0 : finN (rs.take k) = 0) : finO (rs.take (k + 1)) = getO rs[k] ∧ finN (rs.take (k + 1)) = 1 := by
  unfold finN at h0
  have h1 := List.eq_nil_of_length_eq_zero h0
  unfold finO finN
  rw [List.take_succ_eq_append_getElem hk, optL_snoc, h, h1]
  simp
theorem fin_next {rs : List Rc} {k : Nat} (hk : k < rs.length) (h : (rs[k].t == 41) = true) (h0 : finN (rs.take k) ≠ 0) : finO (rs.take (k + 1)) = finO (rs.take k) ∧ finN (rs.take (k + 1)) = finN (rs.take k) + 1 := by
  unfold finN at h0
  unfold finO finN
  rw [List.take_succ_eq_append_getElem hk, optL_snoc, h]
  cases hl : optL (rs.take k) with
  | nil => rw [hl] at h0; simp at h0
  | cons a l => simp
theorem finN_le (rs : List Rc) (k : Nat) : finN (rs.take k) ≤ k := by
  unfold finN optL
  exact Nat.le_trans (List.length_filter_le _ _) (by rw [List.length_take]; omega)

theorem find_blks (w : World) (M : Array Value) : Blk (((w.alloc (.cells M 29)).alloc (.cells (optC otZ (.slice none 0 0)) 50)).alloc (.cells (optC otZ (.slice none 0 0)) 50)) (w.heap.size + 1) (optC otZ (.slice none 0 0)) 50 ∧ Blk (((w.alloc (.cells M 29)).alloc (.cells (optC otZ (.slice none 0 0)) 50)).alloc (.cells (optC otZ (.slice none 0 0)) 50)) (w.heap.size + 1 + 1) (optC otZ (.slice none 0 0)) 50 ∧ Below w.heap.size w (((w.alloc (.cells M 29)).alloc (.cells (optC otZ (.slice none 0 0)) 50)).alloc (.cells (optC otZ (.slice none 0 0)) 50)) := by
  have h2 := Blk.new (w.alloc (.cells M 29)) (optC otZ (.slice none 0 0)) 50
  have h3 := Blk.new ((w.alloc (.cells M 29)).alloc (.cells (optC otZ (.slice none 0 0)) 50)) (optC otZ (.slice none 0 0)) 50
  rw [show (w.alloc (.cells M 29)).heap.size = w.heap.size + 1 from by simp] at h2
  rw [show ((w.alloc (.cells M 29)).alloc (.cells (optC otZ (.slice none 0 0)) 50)).heap.size = w.heap.size + 1 + 1 from by simp] at h3
  exact ⟨h2.alloc _, h3, lay (lay (lay (Below.refl _ _) _) _) _⟩

/-- What Find holds: the answer's block, the first one's block and its row. -/
structure FA (w w' : World) (g1 g2 : Nat) (O : Ot) (y : Option Addr) (n cap : Nat) : Prop where
  res : Blk w' g1 (optC otZ (.slice none 0 0)) 50
  fst : Blk w' g2 (optC O (.slice y n cap)) 50
  row : w'.ownsRow w.heap.size 56 2 (.slice y n cap) O.os.length (oC O.os)
  bel : Below w.heap.size w w'
  n1 : w.heap.size < g1
  n2 : g1 < g2
theorem FA.below {w a b : World} {g1 g2 : Nat} {O : Ot} {y : Option Addr} {n cap : Nat} (h : FA w a g1 g2 O y n cap) (hb : Below a.heap.size a b) : FA w b g1 g2 O y n cap :=
  ⟨h.res.below hb, h.fst.below hb, own_past h.row hb, next h.bel hb, h.n1, h.n2⟩
theorem FA.lay {w a : World} {g1 g2 : Nat} {O : Ot} {y : Option Addr} {n cap : Nat} (h : FA w a g1 g2 O y n cap) (o : Obj) : FA w (a.alloc o) g1 g2 O y n cap := h.below ((Below.refl _ _).alloc (Nat.le_refl _) o)
theorem FA.put {w a : World} {g1 g2 : Nat} {O O' : Ot} {y y' : Option Addr} {n cap n' cap' : Nat} (h : FA w a g1 g2 O y n cap) (hr : a.ownsRow w.heap.size 56 2 (.slice y' n' cap') O'.os.length (oC O'.os)) : FA w (set6 a g2 O' (.slice y' n' cap')) g1 g2 O' y' n' cap' := by
  have ht := set6_turn a g2 O' (.slice y' n' cap')
  exact ⟨ht.blk h.res (by have := h.n2; omega), set6_blk h.fst, ht.row hr (fun k hk e => own_sep hr h.fst (by decide) (by rw [hk, e])), set6_below h.bel (by have := h.n1; have := h.n2; omega) h.bel.size _ _, h.n1, h.n2⟩

end Go.Proofs.Ytcapankhobnfeaa
