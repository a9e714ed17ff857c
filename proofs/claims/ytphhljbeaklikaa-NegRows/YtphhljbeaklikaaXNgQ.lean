/- NegRows, plainly: how many are held; the row of all. -/
import Derived.Test.YtphhljbeaklikaaXNgO
namespace Go.Proofs.Ytphhljbeaklikaa
open Go.RowKit
open Pl
namespace Ng

structure RwN (F : List En) : Prop where
  dis : Dis F
  ok : ∀ e ∈ F, OkE e
  live : ∀ e ∈ F, 5 < e.u
theorem rwN_nil : RwN [] := ⟨List.Pairwise.nil, fun e he => by simp at he, fun e he => by simp at he⟩
theorem RwN.good {F : List En} (h : RwN F) : Good F := ⟨h.ok, h.dis⟩
theorem has_live {F : List En} (h : RwN F) (n : ByteArray) (t : Int) : hasN F n t 5 = F.any (sameK (fdB n) t) := by
  unfold hasN
  rw [Bool.eq_iff_iff, List.any_eq_true, List.any_eq_true]
  constructor
  · rintro ⟨x, hx, hs⟩; simp only [Bool.and_eq_true] at hs; exact ⟨x, hx, hs.1⟩
  · rintro ⟨x, hx, hs⟩; exact ⟨x, hx, by rw [hs]; simpa using h.live x hx⟩
/-- One more is put. -/
theorem rw_stepN {F : List En} (h : RwN F) (hl : F.length < 256) {n : ByteArray} {t u : Int} (he : mayN (nE n t u) 5 = true) :
    RwN (putN 256 F (nE n t u) 5) ∧ (putN 256 F (nE n t u) 5).length = F.length + (if hasN F n t 5 = true then 0 else 1) := by
  have hleft : leftP F (fdB n) t 5 = F.filter (fun y => !sameK (fdB n) t y) := by
    unfold leftP
    apply List.filter_congr
    intro y hy
    have := h.live y hy
    simp [this]
  have hput : putN 256 F (nE n t u) 5 = F.filter (fun y => !sameK (fdB n) t y) ++ [nE (fdB n) t u] := by
    rw [put_yes he, held_nE]
    show cutP 256 (leftP F (fdB n) t 5) ++ _ = _
    have hlen : (F.filter (fun y => !sameK (fdB n) t y)).length < 256 := Nat.lt_of_le_of_lt (List.length_filter_le _ _) hl
    unfold cutP
    rw [hleft, if_neg (Nat.ne_of_lt hlen)]
  refine ⟨⟨put_disN h.dis, put_okN h.ok, fun x hx => ?_⟩, ?_⟩
  · rw [hput] at hx
    rcases List.mem_append.1 hx with hx | hx
    · exact h.live x (List.mem_filter.1 hx).1
    · simp at hx; subst hx; exact (mayN_parts he).2.2.2.1
  · rw [hput, List.length_append, List.length_singleton, has_live h]
    cases ha : F.any (sameK (fdB n) t) with
    | false =>
      have : F.filter (fun y => !sameK (fdB n) t y) = F := List.filter_eq_self.2 (fun y hy => by
        rw [List.any_eq_false] at ha
        have := ha y hy
        simpa using this)
      rw [this]; rfl
    | true =>
      obtain ⟨x, hx, hs⟩ := List.any_eq_true.1 ha
      obtain ⟨i, hi, rfl⟩ := List.getElem_of_mem hx
      have hs2 := sameK_iff.1 hs
      rw [← hs2.1, ← hs2.2, erase_filter h.dis hi, List.length_eraseIdx_of_lt hi]
      simp; omega
/-- Two neighbours of all that is held. -/
theorem rw_nextN {F : List En} (h : RwN F) {i : Nat} (h0 : 1 ≤ i) (hi : i < (allP F).length) :
    cmpN ((allP F)[i - 1]'(by omega)).n.data.toList (allP F)[i].n.data.toList < 0 ∨ cmpN ((allP F)[i - 1]'(by omega)).n.data.toList (allP F)[i].n.data.toList = 0 ∧ ((allP F)[i - 1]'(by omega)).t < (allP F)[i].t := by
  have hr := all_rise h.ok h.dis
  exact cK_neg.1 (List.pairwise_iff_getElem.1 hr (i - 1) i (by omega) hi (by omega))
theorem rw_sizeN {F : List En} (h : RwN F) {i : Nat} (hi : i < (allP F).length) : ((allP F)[i]).n.size ≤ 255 := by
  have h1 : (allP F)[i] ∈ allP F := List.getElem_mem _
  exact (h.ok _ ((all_perm F).mem_iff.1 h1)).k.size

end Ng
end Go.Proofs.Ytphhljbeaklikaa
