/- StoreRows, plainly: the law's keys are those of what is held. -/
import Derived.Test.YtcmhjlflgedcdabXP6
namespace Go.Proofs.Ytcmhjlflgedcdab
open Go.RowKit
open Pl

def keyE' (e : En) : ByteArray × Int := (e.n, e.t)
/-- What stands behind the first rounds: the keys, each once, and the entries. -/
structure RwP (F : List En) (ks : List (ByteArray × Int)) : Prop where
  perm : (F.map keyE').Perm ks
  dis : Dis F
  ok : ∀ e ∈ F, OkE e
  live : ∀ e ∈ F, 5 < e.u
  rank : ∀ e ∈ F, e.r = 2
/-- Is a key among them? -/
def inK (ks : List (ByteArray × Int)) (k : ByteArray × Int) : Bool := ks.any fun x => decide (x.1 = k.1) && decide (x.2 = k.2)
theorem inK_iff {ks : List (ByteArray × Int)} {k : ByteArray × Int} : inK ks k = true ↔ k ∈ ks := by
  unfold inK
  rw [List.any_eq_true]
  constructor
  · rintro ⟨x, hx, h⟩
    simp only [Bool.and_eq_true, decide_eq_true_eq] at h
    have : x = k := Prod.ext h.1 h.2
    rw [← this]; exact hx
  · exact fun h => ⟨k, h, by simp⟩
theorem inK_step {ks : List (ByteArray × Int)} {p : Nat} (hp : p < ks.length) (k : ByteArray × Int) : inK (ks.take (p + 1)) k = (inK (ks.take p) k || (decide (ks[p].1 = k.1) && decide (ks[p].2 = k.2))) := by
  unfold inK
  rw [List.take_succ_eq_append_getElem hp, List.any_append]
  simp
theorem rwP_nil : RwP [] [] := ⟨List.Perm.refl _, List.Pairwise.nil, fun e he => by simp at he, fun e he => by simp at he, fun e he => by simp at he⟩
theorem RwP.len {F : List En} {ks : List (ByteArray × Int)} (h : RwP F ks) : F.length = ks.length := by have := h.perm.length_eq; simpa using this
theorem sameK_key {n : ByteArray} {t : Int} {e : En} : sameK n t e = decide (keyE' e = (n, t)) := by
  rw [Bool.eq_iff_iff, sameK_iff, decide_eq_true_eq]
  unfold keyE'
  simp
theorem dis_keys {F : List En} (h : Dis F) : (F.map keyE').Nodup := by
  unfold Dis at h
  rw [List.Nodup, List.pairwise_map]
  refine h.imp ?_
  intro a b hab e
  rw [sameK_key] at hab
  exact (of_decide_eq_false hab) e.symm
theorem dis_of_keys {F : List En} (h : (F.map keyE').Nodup) : Dis F := by
  unfold Dis
  rw [List.Nodup, List.pairwise_map] at h
  refine h.imp ?_
  intro a b hab
  rw [sameK_key]
  exact decide_eq_false (fun e => hab e.symm)
/-- One more is put. -/
theorem rw_step {F : List En} {ks : List (ByteArray × Int)} (h : RwP F ks) (hl : ks.length < 256) {e : En} (he : mayE e 5 = true) (hd : e.ds.length ≤ 8796093022000) (hs : ∀ d ∈ e.ds, d.size ≤ 140737488351232) (hr : e.r = 2) :
    RwP (putP 256 F e 5) (if inK ks (fdB e.n, e.t) = true then ks else ks ++ [(fdB e.n, e.t)]) := by
  have hb : beatsP F (fdB e.n) e.t e.r 5 = false := by
    unfold beatsP
    rw [List.any_eq_false]
    intro y hy
    have := h.rank y hy
    simp only [hr, this]
    simp
  have hleft : leftP F (fdB e.n) e.t 5 = F.filter (fun y => !sameK (fdB e.n) e.t y) := by
    unfold leftP
    apply List.filter_congr
    intro y hy
    have := h.live y hy
    simp [this]
  have hlen : (F.filter (fun y => !sameK (fdB e.n) e.t y)).length < 256 := Nat.lt_of_le_of_lt (List.length_filter_le _ _) (by rw [h.len]; exact hl)
  have hput : putP 256 F e 5 = F.filter (fun y => !sameK (fdB e.n) e.t y) ++ [heldE e] := by
    unfold putP cutP
    rw [he, hb, hleft, if_neg (Nat.ne_of_lt hlen)]
    rfl
  have hok := put_ok (most := 256) (now := 5) h.ok hd hs
  have hdis := put_dis (most := 256) (e := e) (now := 5) h.dis
  have hmem : ∀ x ∈ putP 256 F e 5, x ∈ F ∨ x = heldE e := fun x hx => by
    rw [hput] at hx
    rcases List.mem_append.1 hx with hx | hx
    · exact .inl (List.mem_filter.1 hx).1
    · exact .inr (by simpa using hx)
  refine ⟨?_, hdis, hok, fun x hx => ?_, fun x hx => ?_⟩
  · have hn := dis_keys hdis
    rw [hput, List.map_append] at hn ⊢
    have hks : ks.Nodup := h.perm.nodup_iff.1 (dis_keys h.dis)
    have hfk : (F.filter (fun y => !sameK (fdB e.n) e.t y)).map keyE' = (F.map keyE').filter (fun k => !decide (k = (fdB e.n, e.t))) := by
      rw [List.filter_map]
      congr 1
      apply List.filter_congr
      intro y _
      rw [sameK_key]
      rfl
    have h1 : (((F.filter (fun y => !sameK (fdB e.n) e.t y)).map keyE') ++ [(fdB e.n, e.t)]).Perm (ks.filter (fun k => !decide (k = (fdB e.n, e.t))) ++ [(fdB e.n, e.t)]) := by
      rw [hfk]
      exact (h.perm.filter _).append_right _
    refine h1.trans ?_
    split
    · rename_i hin
      replace hin := inK_iff.1 hin
      rw [List.perm_ext_iff_of_nodup ?_ hks]
      · intro k
        simp only [List.mem_append, List.mem_filter, List.mem_singleton]
        constructor
        · rintro (⟨h, _⟩ | rfl)
          · exact h
          · exact hin
        · intro hk
          by_cases e' : k = (fdB e.n, e.t)
          · exact .inr e'
          · exact .inl ⟨hk, by simpa using e'⟩
      · exact h1.nodup_iff.1 hn
    · rename_i hin
      replace hin : (fdB e.n, e.t) ∉ ks := fun h => hin (inK_iff.2 h)
      rw [List.filter_eq_self.2]
      · intro k hk
        have : k ≠ (fdB e.n, e.t) := fun e' => hin (e' ▸ hk)
        simpa using this
  · rcases hmem x hx with hx | rfl
    · exact h.live x hx
    · exact (mayE_parts he).2.2.2.2.2.2.1
  · rcases hmem x hx with hx | rfl
    · exact h.rank x hx
    · exact hr
/-- Two neighbours of all that is held. -/
theorem rw_next {F : List En} {ks : List (ByteArray × Int)} (h : RwP F ks) {M : List En} (hM : M = allP F) {i : Nat} (h0 : 1 ≤ i) (hi : i < M.length) :
    cmpN (M[i - 1]'(by omega)).n.data.toList M[i].n.data.toList < 0 ∨ cmpN (M[i - 1]'(by omega)).n.data.toList M[i].n.data.toList = 0 ∧ (M[i - 1]'(by omega)).t < M[i].t := by
  have hr := all_rise h.ok h.dis
  rw [← hM] at hr
  exact cK_neg.1 (List.pairwise_iff_getElem.1 hr (i - 1) i (by omega) hi (by omega))
theorem rw_size {F : List En} {ks : List (ByteArray × Int)} (h : RwP F ks) {M : List En} (hM : M = allP F) {i : Nat} (hi : i < M.length) : M[i].n.size ≤ 255 := by
  have h1 : M[i] ∈ allP F := by rw [← hM]; exact List.getElem_mem _
  exact (h.ok _ ((all_perm F).mem_iff.1 h1)).k.size

end Go.Proofs.Ytcmhjlflgedcdab
