/- What a server of a cut may say, plainly: of a row of records, of a message. -/
import Derived.Test.YtnecdpieoipjdaaMsA
import Derived.Test.YtnecdpieoipjdaaPlainK
namespace Go.Proofs.Ytnecdpieoipjdaa
open Go.RowKit
open Pl

/-- May a server of the cut c say the record? -/
def kpB (c : List UInt8) (r : Rc) : Bool := decide (r.c = 1) && aboveB c r.n.data.toList
/-- The records that it may say. -/
def kpL (c : List UInt8) (rs : List Rc) : List Rc := rs.filter (kpB c)
/-- A message of those alone. -/
def kpM (c : List UInt8) (m : Ms) : Ms := ⟨m.h, m.qs, kpL c m.an, kpL c m.ns, kpL c m.ar⟩
theorem kpL_len (c : List UInt8) (rs : List Rc) : (kpL c rs).length ≤ rs.length := List.length_filter_le _ _
theorem kpL_mem {c : List UInt8} {rs : List Rc} {r : Rc} (h : r ∈ kpL c rs) : r ∈ rs := (List.mem_filter.1 h).1
theorem kpL_twice (c : List UInt8) (rs : List Rc) : kpL c (kpL c rs) = kpL c rs := by simp [kpL, List.filter_filter]
theorem kpL_deep {c d : List UInt8} (h : aboveB c d = true) (rs : List Rc) : kpL d (kpL c rs) = kpL d rs := by
  unfold kpL
  rw [List.filter_filter]
  apply List.filter_congr
  intro r _
  unfold kpB
  cases hd : aboveB d r.n.data.toList with
  | false => simp
  | true => rw [above_trans h hd]; simp
theorem kpL_yes {c : List UInt8} {rs : List Rc} {k : Nat} (hk : k < rs.length) (h : kpB c rs[k] = true) : kpL c (rs.take (k + 1)) = kpL c (rs.take k) ++ [rs[k]] := by
  unfold kpL
  rw [List.take_succ_eq_append_getElem hk, List.filter_append]
  simp [h]
theorem kpL_no {c : List UInt8} {rs : List Rc} {k : Nat} (hk : k < rs.length) (h : kpB c rs[k] = false) : kpL c (rs.take (k + 1)) = kpL c (rs.take k) := by
  unfold kpL
  rw [List.take_succ_eq_append_getElem hk, List.filter_append]
  simp [h]
theorem kpL_to (c : List UInt8) (rs : List Rc) (k : Nat) : (kpL c (rs.take k)).length ≤ k := by
  refine Nat.le_trans (kpL_len _ _) ?_
  rw [List.length_take]
  omega
theorem kpL_at {c : List UInt8} {rs : List Rc} {k : Nat} (hk : k < rs.length) (h : kpB c rs[k] = true) : (kpL c rs)[(kpL c (rs.take k)).length]? = some rs[k] := by
  have e : rs = rs.take k ++ rs[k] :: rs.drop (k + 1) := by
    rw [List.getElem_cons_drop, List.take_append_drop]
  have : kpL c rs = kpL c (rs.take k) ++ rs[k] :: kpL c (rs.drop (k + 1)) := by
    conv => lhs; rw [e]
    unfold kpL
    rw [List.filter_append, List.filter_cons, if_pos h]
  rw [this, List.getElem?_append_right (Nat.le_refl _), Nat.sub_self]
  rfl
theorem kpM_twice (c : List UInt8) (m : Ms) : kpM c (kpM c m) = kpM c m := by simp [kpM, kpL_twice]
theorem kpM_deep {c d : List UInt8} (h : aboveB c d = true) (m : Ms) : kpM d (kpM c m) = kpM d m := by simp [kpM, kpL_deep h]
theorem Fits.kp {m : Ms} (h : Fits m) (c : List UInt8) : Fits (kpM c m) := by
  have a := kpL_len c m.an
  have b := kpL_len c m.ns
  have d := kpL_len c m.ar
  have h1 := h.an
  have h2 := h.ns
  have h3 := h.ar
  exact ⟨h.q, by simp only [kpM]; omega, by simp only [kpM]; omega, by simp only [kpM]; omega, h.sq, fun r hr => h.san r (kpL_mem hr), fun r hr => h.sns r (kpL_mem hr), fun r hr => h.sar r (kpL_mem hr)⟩
theorem Fits.none : Fits msZ := ⟨by simp [msZ], by simp [msZ], by simp [msZ], by simp [msZ], by simp [msZ], by simp [msZ], by simp [msZ], by simp [msZ]⟩

end Go.Proofs.Ytnecdpieoipjdaa
