/- Names of equal labels: plain facts on bytes, with no word of the program. -/
import Derived.Test.YtkfpboippchdbaaPlainC
namespace Go.Proofs.Ytkfpboippchdbaa.Pl

/-- So many times the same label. -/
def rep (m : Nat) (K : UInt8) (z : List UInt8) : List UInt8 := (List.replicate m (K :: z)).flatten

theorem rep_zero (K : UInt8) (z : List UInt8) : rep 0 K z = [] := rfl
theorem rep_succ (m : Nat) (K : UInt8) (z : List UInt8) : rep (m + 1) K z = K :: (z ++ rep m K z) := by simp [rep, List.replicate_succ]
theorem rep_snoc (m : Nat) (K : UInt8) (z : List UInt8) : rep (m + 1) K z = rep m K z ++ K :: z := by
  simp [rep, List.replicate_succ']

theorem rep_len (m : Nat) (K : UInt8) (z : List UInt8) : (rep m K z).length = m * (z.length + 1) := by
  induction m with
  | zero => simp [rep]
  | succ m ih => rw [rep_snoc, List.length_append, ih, List.length_cons, Nat.succ_mul]

theorem rep_nm (K : UInt8) (z : List UInt8) (hK : K.toNat = z.length) (h0 : 1 ≤ z.length) (h1 : z.length ≤ 63) (X : List UInt8) (m : Nat) : nmS 0 (rep m K z ++ X) = (nmS 0 X).map (· + m) := by
  induction m with
  | zero => simp [rep]
  | succ m ih =>
    rw [rep_succ]
    show nmS 0 (K :: ((z ++ rep m K z) ++ X)) = _
    rw [nmS, hK, if_neg (by omega), if_neg (by omega), nmS_drop, List.append_assoc, List.drop_left, ih, Option.map_map]
    congr 1

theorem rep_great (K : UInt8) (z : List UInt8) (h1 : 63 < K.toNat) (X : List UInt8) (m : Nat) (hm : 1 ≤ m) : nmS 0 (rep m K z ++ X) = none := by
  obtain ⟨k, rfl⟩ : ∃ k, m = k + 1 := ⟨m - 1, by omega⟩
  rw [rep_succ]
  show nmS 0 (K :: ((z ++ rep k K z) ++ X)) = _
  rw [nmS, if_neg (by omega), if_pos h1]

theorem not_name {l : List UInt8} (h : nmS 0 l = none) : isName l = false := by unfold isName nm; rw [h]; split <;> rfl
theorem not_long {l : List UInt8} (h : 255 < l.length) : isName l = false := by unfold isName nm; rw [if_pos h]; rfl
theorem cnt_none {l : List UInt8} (h : isName l = false) : cnt l = 0 := by
  unfold isName at h
  unfold cnt
  cases hn : nm l with
  | none => rfl
  | some n => rw [hn] at h; simp at h

/-- What NameLimits asks. -/
theorem rep_all (K : UInt8) (z : List UInt8) (m : Nat) (hK : K.toNat = z.length) (h0 : 1 ≤ z.length) (hm : 1 ≤ m) :
    ((z.length ≤ 63 ∧ (rep m K z).length + 1 ≤ 255) → isName (rep m K z ++ [0]) = true ∧ cnt (rep m K z ++ [0]) = m) ∧
    (¬ (z.length ≤ 63 ∧ (rep m K z).length + 1 ≤ 255) → isName (rep m K z ++ [0]) = false ∧ cnt (rep m K z ++ [0]) = 0) ∧
    isName (rep m K z ++ [0] ++ [0]) = false ∧ isName (rep m K z) = false := by
  by_cases h63 : z.length ≤ 63
  · have e1 := rep_nm K z hK h0 h63 [0] m
    have e2 := rep_nm K z hK h0 h63 [0, 0] m
    have e3 := rep_nm K z hK h0 h63 [] m
    have n1 : nmS 0 (rep m K z ++ [0]) = some m := by rw [e1]; simp [nmS]
    have n2 : nmS 0 (rep m K z ++ [0] ++ [0]) = none := by rw [List.append_assoc]; show nmS 0 (rep m K z ++ [0, 0]) = none; rw [e2]; rfl
    have n3 : nmS 0 (rep m K z) = none := by rw [List.append_nil] at e3; rw [e3]; rfl
    refine ⟨fun h => ?_, fun h => ?_, not_name n2, not_name n3⟩
    · have : nm (rep m K z ++ [0]) = some m := by rw [nm_short (by simp; omega), n1]
      unfold isName cnt
      rw [this]
      exact ⟨rfl, rfl⟩
    · have : isName (rep m K z ++ [0]) = false := not_long (by simp; omega)
      exact ⟨this, cnt_none this⟩
  · have hK' : 63 < K.toNat := by omega
    have n1 := not_name (rep_great K z hK' [0] m hm)
    refine ⟨fun h => absurd h.1 h63, fun _ => ⟨n1, cnt_none n1⟩, ?_, ?_⟩
    · rw [List.append_assoc]; exact not_name (rep_great K z hK' _ m hm)
    · have := not_name (rep_great K z hK' [] m hm)
      rw [List.append_nil] at this
      exact this

end Go.Proofs.Ytkfpboippchdbaa.Pl
