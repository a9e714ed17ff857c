/- CutsTrace, plainly: who told what. -/
import Derived.Test.YtnjgdfmldjgloaaGreatXCtA
namespace Go.Proofs.YtnjgdfmldjgloaaGreat
open Go.RowKit
open Pl
namespace Cu

structure TrC (i : Nat) (c : Ct) : Prop where
  fd : fdB c.n = c.n
  root : c.n ≠ rootB
  tell : tellOk c.fr c.n = true
  few : c.bs.length ≤ 8 + i
def FTr (i : Nat) (F : List Ct) : Prop := ∀ c ∈ F, TrC i c
theorem FTr.start : FTr 0 [] := fun c h => by simp at h
theorem TrC.more {i : Nat} {c : Ct} (h : TrC i c) : TrC (i + 1) c := ⟨h.fd, h.root, h.tell, Nat.le_succ_of_le h.few⟩
theorem fd_fd {n : ByteArray} (h : isName n.data.toList = true) : fdB (fdB n) = fdB n := by
  refine bytes_ext ?_
  rw [fdB_list]
  unfold foldR
  rw [if_pos (fd_name h).1]
  exact (fd_name h).2
theorem fl_fd {n : ByteArray} (h : isName n.data.toList = true) : fl (fdB n).data.toList = fl n.data.toList := by
  rw [fdB_list]
  unfold foldR
  rw [if_pos h, fl_fold]
theorem tell_fd {fr cn : ByteArray} (h : tellOk fr cn = true) : tellOk (fdB fr) (fdB cn) = true := by
  obtain ⟨h1, h2⟩ := tell_parts h
  unfold tellOk at h ⊢
  simp only [Bool.and_eq_true, Bool.not_eq_true'] at h ⊢
  refine ⟨above_iff.2 ⟨(fd_name h1).1, (fd_name h2).1, ?_⟩, ?_⟩
  · rw [fl_fd h1, fl_fd h2]
    exact (above_iff.1 h.1).2.2
  · cases e : sameB (fdB fr).data.toList (fdB cn).data.toList with
    | false => rfl
    | true =>
      have h3 := (same_iff.1 e).2.2
      rw [fl_fd h1, fl_fd h2] at h3
      rw [same_iff.2 ⟨h1, h2, h3⟩] at h
      exact absurd h.2 (by decide)
theorem tell_root {fr : ByteArray} : tellOk fr rootB = false := by
  cases h : tellOk fr rootB with
  | false => rfl
  | true =>
    unfold tellOk at h
    simp only [Bool.and_eq_true, Bool.not_eq_true'] at h
    obtain ⟨h1, h2, h3⟩ := above_iff.1 h.1
    rw [show fl rootB.data.toList = [] by decide] at h3
    rw [same_iff.2 ⟨h1, h2, by rw [List.prefix_nil.1 h3]; decide⟩] at h
    exact absurd h.2 (by decide)
theorem FTr.put {i : Nat} {F : List Ct} (h : FTr i F) (d : Dg) (fr : ByteArray) (now : Int) : FTr (i + 1) (putC F d fr now) := by
  unfold putC
  cases hm : mayD d fr now with
  | false => exact fun c hc => (h c hc).more
  | true =>
    rw [if_pos rfl]
    obtain ⟨m1, m2, m3, _, _⟩ := mayD_parts hm
    obtain ⟨t1, t2⟩ := tell_parts m1
    intro c hc
    rcases List.mem_append.1 hc with hc | hc
    · have h1 : c ∈ F.filter (keepC (fdB d.c) now) := by
        unfold cutC at hc
        split at hc
        · exact (List.eraseIdx_sublist _ _).subset hc
        · exact hc
      exact (h c (List.mem_filter.1 h1).1).more
    · simp at hc
      subst hc
      have htell : tellOk (fdB fr) (fdB d.c) = true := tell_fd m1
      refine ⟨fd_fd t2, fun e => ?_, htell, ?_⟩
      · have e2 : fdB d.c = rootB := e
        rw [e2, tell_root] at htell
        cases htell
      · have h1 := newBs_len d.hs now d.gl []
        have h2 := (glue_parts m3).1
        show (newBs d.hs d.gl now).length ≤ 8 + (i + 1)
        unfold newBs
        simp only [List.length_nil] at h1
        omega
theorem FTr.learn {i : Nat} {F : List Ct} (h : FTr i F) (host : ByteArray) (a u now : Int) : FTr (i + 1) (lrnC F host a u now) := by
  unfold lrnC
  split
  · intro c hc
    obtain ⟨x, hx, rfl⟩ := List.mem_map.1 hc
    have hx2 := h x hx
    unfold lrn1
    split
    · refine ⟨hx2.fd, hx2.root, hx2.tell, ?_⟩
      have := learn_len x.bs ⟨(posL x.hs (fdB host)).toNat, a, u⟩ now
      have h3 := hx2.few
      show (learnB x.bs ⟨(posL x.hs (fdB host)).toNat, a, u⟩ now).length ≤ 8 + (i + 1)
      omega
    · exact hx2.more
  · exact fun c hc => (h c hc).more
theorem FTr.few {i : Nat} {F : List Ct} (h : FTr i F) (hi : i ≤ 60) : ∀ c ∈ F, c.bs.length < 256 := fun c hc => by have := (h c hc).few; omega
theorem LW.ok {w0 w : World} {o : OB} {Hs : List ByteArray} {Hb : List Bn} {F : List Ct} {M : Nat → Prop} (h : LW w0 w o Hs Hb F M) : ∀ c ∈ F, OkC c := by
  obtain ⟨L, hs, hf, _⟩ := h.ex
  intro c hc
  rw [← hf] at hc
  obtain ⟨p, hp, rfl⟩ := List.mem_map.1 hc
  exact (hs.rest.cuts p hp).ok
theorem liveF_some {F : List Ct} {n : ByteArray} {now : Int} {c : Ct} (h : liveF F n now = some c) : c ∈ F ∧ c.n = n ∧ now < c.u := by
  unfold liveF at h
  cases hf : F.find? (fun c => decide (c.n = n)) with
  | none => rw [hf] at h; cases h
  | some q =>
    rw [hf] at h
    simp only at h
    split at h
    · rename_i hu
      cases h
      exact ⟨List.mem_of_find?_eq_some hf, by simpa using List.find?_some hf, hu⟩
    · cases h
/-- What is told as the deepest cut. -/
structure DeepIs (F : List Ct) (n : ByteArray) (now : Int) (C : ByteArray) : Prop where
  above : isName n.data.toList = true → aboveB C.data.toList n.data.toList = true
  fd : fdB C = C
  size : C.size ≤ 255
  is : C = rootB ∨ (C ≠ rootB ∧ ∃ c, liveF F C now = some c)
theorem deepK_le (lv : Nat → Bool) : ∀ k, deepK lv k ≤ k ∧ (deepK lv k = 0 ∨ lv (deepK lv k) = true) := by
  intro k
  induction k with
  | zero => exact ⟨Nat.le_refl _, .inl rfl⟩
  | succ k ih =>
    unfold deepK
    cases h : lv (k + 1) with
    | true => exact ⟨Nat.le_refl _, .inr h⟩
    | false => exact ⟨Nat.le_succ_of_le ih.1, ih.2⟩
theorem root_above {n : ByteArray} (h : isName n.data.toList = true) : aboveB rootB.data.toList n.data.toList = true := above_iff.2 ⟨by decide, h, by rw [show fl rootB.data.toList = [] by decide]; exact List.nil_prefix⟩
theorem deep_is {i : Nat} {F : List Ct} (h : FTr i F) (n : ByteArray) (now : Int) : DeepIs F n now (deepF F n now) := by
  unfold deepF
  cases hn : isName n.data.toList with
  | false =>
    rw [if_neg (by simp)]
    exact ⟨fun e => (by rw [hn] at e; cases e), by rfl, by decide, .inl rfl⟩
  | true =>
    rw [if_pos rfl]
    have hfn := (fd_name hn).1
    obtain ⟨h1, h2⟩ := deepK_le (lvF F (fdB n) now) (labs (fdB n).data.toList).length
    obtain ⟨k, hk⟩ : ∃ k, k = deepK (lvF F (fdB n) now) (labs (fdB n).data.toList).length := ⟨_, rfl⟩
    rw [← hk] at h1 h2 ⊢
    have hab : aboveB (lastB (fdB n) k).data.toList n.data.toList = true := above_iff.2 ⟨by rw [lastB_list]; exact (last_name hfn k h1).1, hn, by rw [lastB_list, fl_last hfn k h1, fl_fd hn]; exact List.take_prefix _ _⟩
    rcases h2 with h2 | h2
    · subst h2
      rw [last_zero] at hab ⊢
      exact ⟨fun _ => hab, by rfl, by decide, .inl rfl⟩
    · unfold lvF at h2
      obtain ⟨c, hc⟩ := Option.isSome_iff_exists.1 h2
      obtain ⟨q1, q2, _⟩ := liveF_some hc
      have hc2 := h c q1
      exact ⟨fun _ => hab, by rw [← q2]; exact hc2.fd, last_size hfn h1, .inr ⟨by rw [← q2]; exact hc2.root, c, hc⟩⟩
/-- What each binding of it is. -/
structure BGood (C : ByteArray) (HX : List ByteArray) (now : Int) (b : Bn) : Prop where
  host : b.h ∈ HX
  cut : b.c = C
  fsz : b.f.size ≤ 255
  from' : (C = rootB ∧ b.f = rootB) ∨ (C ≠ rootB ∧ tellOk b.f C = true ∧ now < b.u)
theorem binds_good {i : Nat} {F : List Ct} (h : FTr i F) (hok : ∀ c ∈ F, OkC c) {n C : ByteArray} {now : Int} (hd : DeepIs F n now C) : ∀ b ∈ bindF Hb2 F C now, BGood C (hostsF Hs2 F C now) now b := by
  rcases hd.is with e | ⟨e, c, hc⟩
  · have e1 : bindF Hb2 F C now = Hb2 := by unfold bindF; rw [hd.fd, if_pos e]
    have e2 : hostsF Hs2 F C now = Hs2 := by unfold hostsF; rw [hd.fd, if_pos e]
    rw [e1, e2]
    intro b hb
    unfold Hb2 at hb
    simp only [List.mem_cons, List.not_mem_nil, or_false] at hb
    rcases hb with rfl | rfl <;> exact ⟨by simp [Hs2], e.symm, by decide, .inl ⟨e, rfl⟩⟩
  · obtain ⟨q1, q2, q3⟩ := liveF_some hc
    have e1 : bindF Hb2 F C now = (liveB now c.bs).map (tellB C c) := by unfold bindF; rw [hd.fd, if_neg e, hc]
    have e2 : hostsF Hs2 F C now = c.hs := by unfold hostsF; rw [hd.fd, if_neg e, hc]
    rw [e1, e2]
    intro b hb
    obtain ⟨x, hx, rfl⟩ := List.mem_map.1 hb
    obtain ⟨hx1, hx2⟩ := List.mem_filter.1 hx
    have hlt := (hok c q1).at' x hx1
    refine ⟨?_, rfl, (hok c q1).fr, .inr ⟨e, ?_, by show now < x.u; simpa using hx2⟩⟩
    · show c.hs.getD x.h ⟨#[]⟩ ∈ c.hs
      rw [List.getD_eq_getElem?_getD, List.getElem?_eq_getElem hlt]
      exact List.getElem_mem _
    · show tellOk c.fr C = true
      rw [← q2]
      exact (h c q1).tell
theorem few_hosts {F : List Ct} (hok : ∀ c ∈ F, OkC c) (C : ByteArray) (now : Int) : (hostsF Hs2 F C now).length ≤ 8 ∧ (bindF Hb2 F C now).length ≤ 256 := by
  unfold hostsF bindF
  split
  · exact ⟨by decide, by decide⟩
  · cases hc : liveF F (fdB C) now with
    | none => exact ⟨by simp, by simp⟩
    | some c =>
      obtain ⟨q1, _, _⟩ := liveF_some hc
      refine ⟨(hok c q1).hlen, ?_⟩
      simp only [List.length_map]
      exact Nat.le_trans (List.length_filter_le _ _) (hok c q1).len

end Cu
end Go.Proofs.YtnjgdfmldjgloaaGreat
