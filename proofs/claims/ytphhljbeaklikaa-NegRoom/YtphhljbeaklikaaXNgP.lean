/- NegRoom, plainly. -/
import Derived.Test.YtphhljbeaklikaaXNgO
import Derived.Test.YtphhljbeaklikaaXInA
namespace Go.Proofs.Ytphhljbeaklikaa
open Go.RowKit
open Pl
namespace Ng

/-- What NegRoom puts. -/
def nmQ (j : Nat) : ByteArray := ⟨#[1, UInt8.ofNat j, 0]⟩
theorem nmQ_all : ∀ j : Fin 50, isName (nmQ j.1).data.toList = true ∧ fdB (nmQ j.1) = nmQ j.1 := by decide +kernel
theorem nmQ_name {j : Nat} (h : j < 50) : isName (nmQ j).data.toList = true ∧ fdB (nmQ j) = nmQ j := nmQ_all ⟨j, h⟩
theorem nmQ_inj {i j : Nat} (hi : i < 50) (hj : j < 50) (h : nmQ i = nmQ j) : i = j := by
  unfold nmQ at h
  have e1 : UInt8.ofNat i = UInt8.ofNat j := by simpa using h
  have e2 := congrArg UInt8.toNat e1
  rw [UInt8.toNat_ofNat', UInt8.toNat_ofNat'] at e2
  omega
structure RmN (k i : Nat) (F : List En) : Prop where
  own : ∀ e ∈ F, ∃ j t u, j < i ∧ 9 < u ∧ e = nE (nmQ j) t u
  len : F.length = min k i
theorem rmN_nil (k : Nat) : RmN k 0 [] := ⟨fun e he => by simp at he, by simp⟩
theorem rm_mayN {j : Nat} {t u : Int} (hj : j < 50) (h0 : 0 ≤ t) (h1 : t ≤ 65535) (hu : 9 < u) : mayN (nE (nmQ j) t u) 9 = true := may_yes (nmQ_name hj).1 h0 h1 hu (by decide) (by decide)
theorem rm_putN {k i : Nat} {F : List En} (h : RmN k i F) (hi : i < 50) {t u : Int} (h0 : 0 ≤ t) (h1 : t ≤ 65535) (hu : 9 < u) : putN k F (nE (nmQ i) t u) 9 = cutP k F ++ [nE (nmQ i) t u] := by
  have hf := (nmQ_name hi).2
  have hs : ∀ y ∈ F, sameK (nmQ i) t y = false ∧ 9 < y.u := fun y hy => by
    obtain ⟨j, s, v, hj, hv, rfl⟩ := h.own y hy
    refine ⟨?_, hv⟩
    cases e : sameK (nmQ i) t (nE (nmQ j) s v) with
    | false => rfl
    | true =>
      have := nmQ_inj (by omega) hi (sameK_iff.1 e).1
      omega
  have hl : leftP F (nmQ i) t 9 = F := by
    unfold leftP
    rw [List.filter_eq_self]
    intro y hy
    rw [(hs y hy).1]
    simpa using (hs y hy).2
  rw [put_yes (rm_mayN hi h0 h1 hu), held_nE]
  show cutP k (leftP F (fdB (nmQ i)) t 9) ++ [nE (fdB (nmQ i)) t u] = _
  rw [hf, hl]
theorem rm_stepN {k i : Nat} {F : List En} (h : RmN k i F) (hk : 1 ≤ k) (hi : i < 50) {t u : Int} (h0 : 0 ≤ t) (h1 : t ≤ 65535) (hu : 9 < u) : RmN k (i + 1) (putN k F (nE (nmQ i) t u) 9) ∧ hasN (putN k F (nE (nmQ i) t u) 9) (nmQ i) t 9 = true := by
  rw [rm_putN h hi h0 h1 hu]
  have hlen := h.len
  refine ⟨⟨fun e he => ?_, ?_⟩, ?_⟩
  · rcases List.mem_append.1 he with he | he
    · obtain ⟨j, s, v, g1, g2, g3⟩ := h.own e (cut_mem he)
      exact ⟨j, s, v, by omega, g2, g3⟩
    · simp at he; subst he; exact ⟨i, t, u, by omega, hu, rfl⟩
  · rw [List.length_append]
    unfold cutP
    by_cases e : F.length = k
    · rw [if_pos e, List.length_eraseIdx_of_lt (minP_lt (by omega))]
      simp; omega
    · rw [if_neg e]; simp; omega
  · rw [has_app, has_one, (nmQ_name hi).2]
    simp [hu]

end Ng
end Go.Proofs.Ytphhljbeaklikaa
