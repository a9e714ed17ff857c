/- The document's cuts, plainly; that they answer as ours do. -/
import Derived.Test.YtnjgdfmldjgloaaGreatXCtB
namespace Go.Proofs.YtnjgdfmldjgloaaGreat
open Go.RowKit
open Pl
namespace Cu

/-- A cut as the document holds it. -/
structure Rk where
  n : ByteArray
  f : ByteArray
  hs : List ByteArray
  u : Int
  rt : Bool
  bs : List Bn
def rkOf (c : Ct) : Rk := ⟨c.n, c.fr, c.hs, c.u, false, c.bs.map (tellB c.n c)⟩
def rkRt (Hs : List ByteArray) (Hb : List Bn) : Rk := ⟨rootB, rootB, Hs, 0, true, Hb⟩
def allK (Hs : List ByteArray) (Hb : List Bn) (F : List Ct) : List Rk := rkRt Hs Hb :: F.map rkOf
def liveK (now : Int) (x : Rk) : Bool := x.rt || decide (now < x.u)
def isB (h : ByteArray) (a now : Int) (b : Bn) : Bool := decide (b.h = h) && decide (b.a = a) && decide (now < b.u)
def boundK (bs : List Bn) (h : ByteArray) (a now : Int) : Bool := bs.any (isB h a now)
def livingK (x : Rk) (now : Int) : List Bn := x.bs.filter fun b => x.rt || decide (now < b.u)
/-- What the hosts of a cut are. -/
structure HsOk (hs : List ByteArray) : Prop where
  nd : hs.Nodup
  nm : ∀ h ∈ hs, h ≠ ⟨#[]⟩
theorem living_of (c : Ct) (now : Int) : livingK (rkOf c) now = (liveB now c.bs).map (tellB c.n c) := by
  unfold livingK rkOf liveB
  rw [List.filter_map]
  rfl
theorem nd_at {hs : List ByteArray} (h : hs.Nodup) {i j : Nat} (hi : i < hs.length) (hj : j < hs.length) (e : hs[i] = hs[j]) : i = j := by
  have hp := List.pairwise_iff_getElem.1 h
  rcases Nat.lt_trichotomy i j with h1 | h1 | h1
  · exact absurd e (hp i j hi hj h1)
  · exact h1
  · exact absurd e.symm (hp j i hj hi h1)
theorem bound_of {n fr : ByteArray} {hs : List ByteArray} {bs : List Bd} (ho : HsOk hs) (hat : ∀ x ∈ bs, x.h < hs.length) {f : ByteArray} {k : Nat} (hk : k < hs.length) (hf : hs[k] = f) (a now : Int) (u u0 : Int) (bs0 : List Bd) :
    boundK (bs.map (tellB n ⟨n, hs, fr, u0, bs0⟩)) f a now = (liveB now bs).any fun x => sameS x ⟨k, a, u⟩ := by
  rw [Bool.eq_iff_iff]
  unfold boundK liveB
  rw [List.any_map, List.any_eq_true, List.any_eq_true]
  have key : ∀ x ∈ bs, (isB f a now ∘ tellB n ⟨n, hs, fr, u0, bs0⟩) x = true ↔ now < x.u ∧ sameS x ⟨k, a, u⟩ = true := fun x hx => by
    have hl := hat x hx
    simp only [Function.comp, isB, tellB, sameS, Bool.and_eq_true, decide_eq_true_eq, List.getD_eq_getElem?_getD, List.getElem?_eq_getElem hl, Option.getD_some]
    constructor
    · rintro ⟨⟨e1, e2⟩, e3⟩
      exact ⟨e3, nd_at ho.nd hl hk (e1.trans hf.symm), e2⟩
    · rintro ⟨e3, e1, e2⟩
      refine ⟨⟨?_, e2⟩, e3⟩
      subst hf
      simp only [e1]
  constructor
  · rintro ⟨x, hx, h⟩
    obtain ⟨h1, h2⟩ := (key x hx).1 h
    exact ⟨x, List.mem_filter.2 ⟨hx, by simpa using h1⟩, h2⟩
  · rintro ⟨x, hx, h⟩
    obtain ⟨h1, h2⟩ := List.mem_filter.1 hx
    exact ⟨x, h1, (key x h1).2 ⟨by simpa using h2, h⟩⟩

/-- Learn. -/
def lrn1K (f : ByteArray) (a u now : Int) (x : Rk) : Rk := if !x.rt && liveK now x && decide (0 ≤ posL x.hs f) && !boundK x.bs f a now && decide ((livingK x now).length < 16) then { x with bs := x.bs ++ [⟨x.n, f, a, x.f, u⟩] } else x
def lrnK (G : List Rk) (host : ByteArray) (a u now : Int) : List Rk := if decide (fdB host ≠ ⟨#[]⟩) && wideB a && decide (now < u) then G.map (lrn1K (fdB host) a u now) else G
theorem lrn1_of {c : Ct} (ho : HsOk c.hs) (hat : ∀ x ∈ c.bs, x.h < c.hs.length) (f : ByteArray) (a u now : Int) : lrn1K f a u now (rkOf c) = rkOf (lrn1 f a u now c) := by
  obtain ⟨n, hs, fr, cu, bs⟩ := c
  by_cases hm : f ∈ hs
  · obtain ⟨k, hk, hp, hf⟩ := posL_lt (posL_mem.2 hm)
    have h1 := living_of ⟨n, hs, fr, cu, bs⟩ now
    have h2 : boundK (rkOf ⟨n, hs, fr, cu, bs⟩).bs f a now = (liveB now bs).any fun x => sameS x ⟨k, a, u⟩ := bound_of ho hat hk hf a now u cu bs
    unfold lrn1K lrn1
    rw [h1, h2, List.length_map]
    simp only [rkOf, liveK, Bool.not_false, Bool.true_and, Bool.false_or, hp]
    by_cases hu : now < cu
    · simp only [hu, decide_true, Bool.true_and]
      have hk0 : decide (0 ≤ (k : Int)) = true := by simp
      rw [hk0]
      simp only [Bool.and_self, Bool.true_and, if_true, Int.toNat_natCast]
      unfold learnB stopB
      cases hb : (liveB now bs).any fun x => sameS x ⟨k, a, u⟩ with
      | true => simp
      | false =>
        by_cases hl : 16 ≤ (liveB now bs).length
        · have hl' : ¬ (liveB now bs).length < 16 := by omega
          simp [hl, hl']
        · have hl' : (liveB now bs).length < 16 := by omega
          simp only [hl, hl', decide_true, decide_false, Bool.not_false, Bool.and_self, Bool.or_self, if_true, Bool.false_eq_true, if_false, List.map_append, List.map_cons, List.map_nil]
          congr 2
          simp only [tellB, List.getD_eq_getElem?_getD, List.getElem?_eq_getElem hk, Option.getD_some, hf]
    · simp [hu]
  · have hp : ¬ 0 ≤ posL hs f := fun e => hm (posL_mem.1 e)
    unfold lrn1K lrn1
    simp [rkOf, hp]
/-- What cuts are that were told one after another. -/
structure FOk (i : Nat) (F : List Ct) : Prop where
  tr : FTr i F
  ho : ∀ c ∈ F, HsOk c.hs
  dis : F.Pairwise (fun x y => x.n ≠ y.n)
  len : F.length ≤ 128
theorem FOk.start : FOk 0 [] := ⟨FTr.start, fun c h => by simp at h, List.Pairwise.nil, Nat.zero_le _⟩
theorem lrn_of {i : Nat} {F : List Ct} (h : FOk i F) (hok : ∀ c ∈ F, OkC c) (Hs : List ByteArray) (Hb : List Bn) (host : ByteArray) (a u now : Int) : lrnK (allK Hs Hb F) host a u now = allK Hs Hb (lrnC F host a u now) := by
  have hmap : (F.map rkOf).map (lrn1K (fdB host) a u now) = (F.map (lrn1 (fdB host) a u now)).map rkOf := by
    rw [List.map_map, List.map_map]
    refine List.map_congr_left (fun c hc => ?_)
    exact lrn1_of (h.ho c hc) (hok c hc).at' _ a u now
  have hroot : lrn1K (fdB host) a u now (rkRt Hs Hb) = rkRt Hs Hb := by unfold lrn1K rkRt; simp
  by_cases hf : fdB host = ⟨#[]⟩
  · have e1 : lrnK (allK Hs Hb F) host a u now = allK Hs Hb F := by unfold lrnK; rw [hf]; simp
    have e2 : lrnC F host a u now = F := by
      unfold lrnC
      split
      · rw [hf]
        have : ∀ c ∈ F, lrn1 ⟨#[]⟩ a u now c = c := fun c hc => by
          have hp : ¬ 0 ≤ posL c.hs ⟨#[]⟩ := fun e => (h.ho c hc).nm _ (posL_mem.1 e) rfl
          unfold lrn1
          simp [hp]
        rw [List.map_congr_left this, List.map_id']
      · rfl
    rw [e1, e2]
  · unfold lrnK lrnC
    simp only [ne_eq, hf, not_false_eq_true, decide_true, Bool.true_and]
    split
    · unfold allK
      rw [List.map_cons, hroot, hmap]
    · rfl

/-- Put. -/
def glK (n f : ByteArray) (now : Int) (bs : List Bn) (g : Bn) : List Bn := if boundK bs (fdB g.h) g.a now then bs else bs ++ [⟨n, fdB g.h, g.a, f, now + lastI g.u⟩]
def newK (d : Dg) (fr : ByteArray) (now : Int) : Rk := ⟨fdB d.c, fdB fr, d.hs.map fdB, now + lastI d.ttl, false, d.gl.foldl (glK (fdB d.c) (fdB fr) now) []⟩
theorem host_ok {hs : List ByteArray} (h : hostsOk hs = true) : HsOk (hs.map fdB) := by
  obtain ⟨_, _, h3⟩ := hosts_parts h
  unfold hostsOk at h
  simp only [Bool.and_eq_true, decide_eq_true_eq] at h
  refine ⟨?_, fun x hx => ?_⟩
  · refine List.pairwise_iff_getElem.2 (fun i j hi hj hij => ?_)
    rw [List.length_map] at hi hj
    rw [List.getElem_map, List.getElem_map]
    intro e
    have := List.all_eq_true.1 h.2 j (List.mem_range.2 hj)
    unfold hOk at this
    rw [List.getD_eq_getElem?_getD, List.getElem?_eq_getElem hj] at this
    simp only [Option.getD_some, Bool.and_eq_true, Bool.not_eq_true'] at this
    have h4 := this.2
    unfold hasB at h4
    have h5 := List.any_eq_false.1 h4 hs[i] (List.mem_take_iff_getElem.2 ⟨i, by omega, rfl⟩)
    refine h5 (same_iff.2 ⟨h3 _ (List.getElem_mem _), h3 _ (List.getElem_mem _), ?_⟩)
    rw [← fl_fd (h3 _ (List.getElem_mem hi)), ← fl_fd (h3 _ (List.getElem_mem hj)), e]
  · obtain ⟨y, hy, rfl⟩ := List.mem_map.1 hx
    intro e
    have := (fd_name (h3 y hy)).1
    rw [e] at this
    exact absurd this (by decide)
theorem glue_of {hs : List ByteArray} (ho : HsOk (hs.map fdB)) (n f : ByteArray) (now : Int) : ∀ (gl : List Bn) (bs : List Bd), (∀ g ∈ gl, 0 ≤ posL (hs.map fdB) (fdB g.h)) → (∀ x ∈ bs, x.h < (hs.map fdB).length ∧ now < x.u) → bs.length + gl.length ≤ 16 →
    (gl.foldl (glAdd hs now) bs).map (tellB n ⟨n, hs.map fdB, f, 0, []⟩) = gl.foldl (glK n f now) (bs.map (tellB n ⟨n, hs.map fdB, f, 0, []⟩)) := by
  intro gl
  induction gl with
  | nil => intro bs _ _ _; rfl
  | cons g gl ih =>
    intro bs hg hb hl
    rw [List.length_cons] at hl
    obtain ⟨k, hk, hp, hf⟩ := posL_lt (hg g (by simp))
    have hbd := bound_of (n := n) (fr := f) ho (fun x hx => (hb x hx).1) hk hf g.a now (now + lastI g.u) 0 []
    have hx : glB hs now g = ⟨k, g.a, now + lastI g.u⟩ := by unfold glB idxG; rw [hp]; rfl
    have hlive : liveB now bs = bs := by
      unfold liveB
      exact List.filter_eq_self.2 (fun x hx => by simpa using (hb x hx).2)
    have hstep : (glAdd hs now bs g).map (tellB n ⟨n, hs.map fdB, f, 0, []⟩) = glK n f now (bs.map (tellB n ⟨n, hs.map fdB, f, 0, []⟩)) g := by
      unfold glAdd glK learnB stopB
      rw [hbd, hx, hlive]
      have h16 : decide (16 ≤ bs.length) = false := by simp; omega
      rw [h16, Bool.false_or]
      split
      · rfl
      · rw [List.map_append]
        congr 1
        simp only [List.map_cons, List.map_nil, tellB, List.getD_eq_getElem?_getD, List.getElem?_eq_getElem hk, Option.getD_some, hf]
    rw [List.foldl_cons, List.foldl_cons, ← hstep]
    refine ih _ (fun g' h' => hg g' (by simp [h'])) (fun x hx' => ?_) ?_
    · unfold glAdd learnB at hx'
      rw [hx] at hx'
      split at hx'
      · exact hb x hx'
      · rcases List.mem_append.1 hx' with hx' | hx'
        · exact hb x hx'
        · simp at hx'
          subst hx'
          exact ⟨hk, by have := lastI_lo g.u; show now < now + lastI g.u; omega⟩
    · have := learn_len bs (glB hs now g) now
      unfold glAdd
      omega
theorem new_of {d : Dg} {fr : ByteArray} {now : Int} (hm : mayD d fr now = true) : newK d fr now = rkOf (newCt d fr now) := by
  obtain ⟨_, m2, m3, _, _⟩ := mayD_parts hm
  obtain ⟨g1, g2⟩ := glue_parts m3
  have := glue_of (host_ok m2) (fdB d.c) (fdB fr) now d.gl [] (fun g hg => (g2 g hg).2) (fun x hx => by simp at hx) (by simp; omega)
  unfold newK rkOf newCt newBs
  simp only [List.map_nil] at this
  rw [← this]
  rfl
def keepK (n : ByteArray) (now : Int) (x : Rk) : Bool := liveK now x && !decide (x.n = n)
def zK : Rk := ⟨⟨#[]⟩, ⟨#[]⟩, [], 0, true, []⟩
def ltK (x y : Rk) : Bool := decide (x.u < y.u) || (decide (x.u = y.u) && decide (cmpN x.n.data.toList y.n.data.toList < 0))
/-- The place of the one that goes, of the first i; -1: none. -/
def leastK (G : List Rk) : Nat → Int
  | 0 => -1
  | i + 1 => if (G.getD i zK).rt then leastK G i else if leastK G i < 0 then (i : Int) else if ltK (G.getD i zK) (G.getD (leastK G i).toNat zK) then (i : Int) else leastK G i
def cutK (K : List Rk) : List Rk := if K.length = 129 then K.eraseIdx (leastK K K.length).toNat else K
def putK (G : List Rk) (d : Dg) (fr : ByteArray) (now : Int) : List Rk := if mayD d fr now then cutK (G.filter (keepK (fdB d.c) now)) ++ [newK d fr now] else G
theorem lt_of (a b : Ct) : ltK (rkOf a) (rkOf b) = ltE (enC a) (enC b) := by
  unfold ltK ltE
  show (decide (a.u < b.u) || (decide (a.u = b.u) && decide (cmpN a.n.data.toList b.n.data.toList < 0))) = (decide (a.u < b.u) || (decide (a.u = b.u) && decide (cK a.n 0 b.n 0 < 0)))
  congr 2
  rw [decide_eq_decide, cK_neg]
  omega
theorem all_at (Hs : List ByteArray) (Hb : List Bn) (F : List Ct) {i : Nat} (hi : i < F.length) : (allK Hs Hb F).getD (i + 1) zK = rkOf F[i] := by
  unfold allK
  rw [List.getD_eq_getElem?_getD, List.getElem?_cons_succ, List.getElem?_map, List.getElem?_eq_getElem hi]
  rfl
theorem least_of (Hs : List ByteArray) (Hb : List Bn) (F : List Ct) : ∀ j, j < F.length → leastK (allK Hs Hb F) (j + 2) = ((minK (F.map enC) (j + 1) : Nat) : Int) + 1 := by
  intro j
  induction j with
  | zero =>
    intro hj
    have e1 : leastK (allK Hs Hb F) 1 = -1 := rfl
    have h0 : minK (F.map enC) 0 < (F.map enC).length := by simp [minK]; omega
    have e2 : minK (F.map enC) 1 = 0 := by rw [minK_step (by simp; omega) h0]; simp [minK]
    rw [leastK, all_at Hs Hb F hj, e1, e2]
    rfl
  | succ j ih =>
    intro hj
    have h1 := ih (by omega)
    have h2 := minK_lt (L := F.map enC) (i := j + 1) (by omega) (by simp; omega)
    have h3 : minK (F.map enC) (j + 1) < F.length := by omega
    rw [leastK, all_at Hs Hb F hj, h1]
    have e0 : (rkOf F[j + 1]).rt = false := rfl
    rw [e0, if_neg (by simp), if_neg (by omega), show ((minK (F.map enC) (j + 1) : Nat) + 1 : Int).toNat = minK (F.map enC) (j + 1) + 1 by omega, all_at Hs Hb F h3, lt_of,
      minK_step (L := F.map enC) (i := j + 1) (by simp; omega) (by simp; omega), List.getElem_map, List.getElem_map]
    split <;> push_cast <;> rfl
theorem keep_of {n : ByteArray} (hn : n ≠ rootB) (Hs : List ByteArray) (Hb : List Bn) (F : List Ct) (now : Int) : (allK Hs Hb F).filter (keepK n now) = allK Hs Hb (F.filter (keepC n now)) := by
  have h0 : keepK n now (rkRt Hs Hb) = true := by
    have : decide (rootB = n) = false := by simp; exact fun e => hn e.symm
    unfold keepK liveK rkRt
    simp [this]
  unfold allK
  rw [List.filter_cons, if_pos h0, List.filter_map]
  congr 2
  refine List.filter_congr (fun c _ => ?_)
  show ((false || decide (now < c.u)) && !decide (c.n = n)) = keepC n now c
  unfold keepC
  rw [Bool.false_or, Bool.and_comm]
theorem cut_of {F : List Ct} (hl : F.length ≤ 128) (Hs : List ByteArray) (Hb : List Bn) : cutK (allK Hs Hb F) = allK Hs Hb (cutC F) := by
  unfold cutK cutC
  have e : (allK Hs Hb F).length = F.length + 1 := by simp [allK]
  rw [e]
  by_cases h : F.length = 128
  · rw [if_pos (by omega), if_pos (by omega), show F.length + 1 = 127 + 2 by omega, least_of Hs Hb F 127 (by omega)]
    have : minCt F = minK (F.map enC) (127 + 1) := by unfold minCt minP; rw [List.length_map, h]
    rw [this, show (((minK (F.map enC) (127 + 1) : Nat) : Int) + 1).toNat = minK (F.map enC) (127 + 1) + 1 by omega]
    unfold allK
    rw [List.eraseIdx_cons_succ]
    congr 1
    generalize minK (F.map enC) (127 + 1) = k
    clear e h hl this
    induction F generalizing k with
    | nil => rfl
    | cons a F ih =>
      cases k with
      | zero => rfl
      | succ k => simp only [List.map_cons, List.eraseIdx_cons_succ, ih]
  · rw [if_neg (by omega), if_neg (by omega)]
theorem put_of {i : Nat} {F : List Ct} (h : FOk i F) (Hs : List ByteArray) (Hb : List Bn) (d : Dg) (fr : ByteArray) (now : Int) : putK (allK Hs Hb F) d fr now = allK Hs Hb (putC F d fr now) := by
  unfold putK putC
  cases hm : mayD d fr now with
  | false => rfl
  | true =>
    rw [if_pos rfl, if_pos rfl]
    have hne : fdB d.c ≠ rootB := fun e => by
      have h1 := tell_fd (mayD_parts hm).1
      rw [e, tell_root] at h1
      cases h1
    rw [keep_of hne, cut_of (Nat.le_trans (List.length_filter_le _ _) h.len), new_of hm]
    unfold allK
    rw [List.map_append]
    rfl
theorem cut_subC (F : List Ct) : (cutC F).Sublist F := by
  unfold cutC
  split
  · exact List.eraseIdx_sublist _ _
  · exact List.Sublist.refl _
theorem FOk.put {i : Nat} {F : List Ct} (h : FOk i F) (d : Dg) (fr : ByteArray) (now : Int) : FOk (i + 1) (putC F d fr now) := by
  have ht := h.tr.put d fr now
  cases hm : mayD d fr now with
  | false =>
    have e : putC F d fr now = F := by unfold putC; rw [hm]; rfl
    rw [e] at ht ⊢
    exact ⟨ht, h.ho, h.dis, h.len⟩
  | true =>
    have e : putC F d fr now = cutC (F.filter (keepC (fdB d.c) now)) ++ [newCt d fr now] := by unfold putC; rw [hm]; rfl
    rw [e] at ht ⊢
    refine ⟨ht, fun c hc => ?_, ?_, ?_⟩
    · rcases List.mem_append.1 hc with hc | hc
      · exact h.ho c (List.mem_filter.1 ((cut_subC _).subset hc)).1
      · simp at hc
        subst hc
        exact host_ok (mayD_parts hm).2.1
    · refine List.pairwise_append.2 ⟨List.Pairwise.sublist ((cut_subC _).trans (List.filter_sublist)) h.dis, List.pairwise_singleton _ _, fun x hx y hy => ?_⟩
      simp at hy
      subst hy
      have := (List.mem_filter.1 ((cut_subC _).subset hx)).2
      unfold keepC at this
      simp only [Bool.and_eq_true, Bool.not_eq_true', decide_eq_false_iff_not] at this
      exact this.1
    · have h1 : (F.filter (keepC (fdB d.c) now)).length ≤ 128 := Nat.le_trans (List.length_filter_le _ _) h.len
      rw [List.length_append, List.length_cons, List.length_nil]
      unfold cutC
      split
      · have h2 : minCt (F.filter (keepC (fdB d.c) now)) < (F.filter (keepC (fdB d.c) now)).length := by
          unfold minCt minP
          have := minK_lt (L := (F.filter (keepC (fdB d.c) now)).map enC) (i := ((F.filter (keepC (fdB d.c) now)).map enC).length) (by rw [List.length_map]; omega) (Nat.le_refl _)
          rw [List.length_map] at this ⊢
          exact this
        rw [List.length_eraseIdx, if_pos h2]
        omega
      · omega
theorem FOk.learn {i : Nat} {F : List Ct} (h : FOk i F) (host : ByteArray) (a u now : Int) : FOk (i + 1) (lrnC F host a u now) := by
  have ht := h.tr.learn host a u now
  cases hm : wideB a && decide (now < u) with
  | false =>
    have e : lrnC F host a u now = F := by unfold lrnC; rw [hm]; rfl
    rw [e] at ht ⊢
    exact ⟨ht, h.ho, h.dis, h.len⟩
  | true =>
    have e : lrnC F host a u now = F.map (lrn1 (fdB host) a u now) := by unfold lrnC; rw [hm]; rfl
    rw [e] at ht ⊢
    refine ⟨ht, fun c hc => ?_, ?_, by rw [List.length_map]; exact h.len⟩
    · obtain ⟨x, hx, rfl⟩ := List.mem_map.1 hc
      have : (lrn1 (fdB host) a u now x).hs = x.hs := by unfold lrn1; split <;> rfl
      rw [this]
      exact h.ho x hx
    · refine List.pairwise_map.2 (h.dis.imp (fun {x y} hxy => ?_))
      rw [lrn1_n, lrn1_n]
      exact hxy

/-- Hosts and Bindings. -/
def isK (cn : ByteArray) (now : Int) (x : Rk) : Bool := liveK now x && sameB x.n.data.toList cn.data.toList
def findK (G : List Rk) (cn : ByteArray) (now : Int) : Option Rk := G.find? (isK cn now)
def hostsK (G : List Rk) (cn : ByteArray) (now : Int) : List ByteArray := match findK G cn now with | some x => x.hs | none => []
def bindK (G : List Rk) (cn : ByteArray) (now : Int) : List Bn := match findK G cn now with | some x => livingK x now | none => []
theorem same_fold {c n : ByteArray} (hc : isName c.data.toList = true) (hf : foldL c.data.toList = c.data.toList) : sameB c.data.toList n.data.toList = decide (c = fdB n) := by
  rw [Bool.eq_iff_iff, decide_eq_true_eq]
  constructor
  · intro h
    have h1 := same_fd h
    rw [← h1]
    refine bytes_ext ?_
    rw [fdB_list]
    unfold foldR
    rw [if_pos hc, hf]
  · intro h
    cases hn : isName n.data.toList with
    | false =>
      rw [fd_none hn] at h
      subst h
      exact absurd hc (by decide)
    | true =>
      refine same_iff.2 ⟨hc, hn, ?_⟩
      rw [h, fl_fd hn]
theorem find_live {F : List Ct} (hd : F.Pairwise (fun x y => x.n ≠ y.n)) (f : ByteArray) (now : Int) : F.find? (fun c => decide (now < c.u) && decide (c.n = f)) = liveF F f now := by
  induction F with
  | nil => rfl
  | cons a F ih =>
    obtain ⟨h1, h2⟩ := List.pairwise_cons.1 hd
    rw [List.find?_cons]
    unfold liveF
    rw [List.find?_cons]
    by_cases hn : a.n = f
    · simp only [hn, decide_true, Bool.and_true]
      by_cases hu : now < a.u
      · simp [hu]
      · simp only [hu, decide_false, if_false]
        refine List.find?_eq_none.2 (fun c hc => ?_)
        have := h1 c hc
        rw [hn] at this
        simp [Ne.symm this]
    · simp only [hn, decide_false, Bool.and_false]
      exact ih h2
theorem find_cong {α : Type} {p q : α → Bool} {L : List α} (h : ∀ x ∈ L, p x = q x) : L.find? p = L.find? q := by
  induction L with
  | nil => rfl
  | cons a L ih =>
    rw [List.find?_cons, List.find?_cons, h a (by simp), ih (fun x hx => h x (by simp [hx]))]
theorem find_of {i : Nat} {F : List Ct} (h : FOk i F) (hok : ∀ c ∈ F, OkC c) (Hs : List ByteArray) (Hb : List Bn) (cn : ByteArray) (now : Int) :
    findK (allK Hs Hb F) cn now = if fdB cn = rootB then some (rkRt Hs Hb) else (liveF F (fdB cn) now).map rkOf := by
  have h0 : isK cn now (rkRt Hs Hb) = decide (fdB cn = rootB) := by
    unfold isK liveK rkRt
    simp only [Bool.true_or, Bool.true_and]
    rw [same_fold (by decide) (by decide), decide_eq_decide]
    exact eq_comm
  unfold findK allK
  rw [List.find?_cons, h0]
  by_cases hr : fdB cn = rootB
  · simp [hr]
  · simp only [hr, decide_false, if_false]
    rw [List.find?_map, ← find_live h.dis]
    congr 1
    refine find_cong (fun c hc => ?_)
    show ((false || decide (now < c.u)) && sameB c.n.data.toList cn.data.toList) = _
    rw [same_fold (hok c hc).nm.nm (hok c hc).nm.fo, Bool.false_or]
theorem hosts_of {i : Nat} {F : List Ct} (h : FOk i F) (hok : ∀ c ∈ F, OkC c) (Hs : List ByteArray) (Hb : List Bn) (cn : ByteArray) (now : Int) : hostsK (allK Hs Hb F) cn now = hostsF Hs F cn now := by
  unfold hostsK hostsF
  rw [find_of h hok]
  by_cases hr : fdB cn = rootB
  · rw [if_pos hr, if_pos hr]
    rfl
  · rw [if_neg hr, if_neg hr]
    cases liveF F (fdB cn) now <;> rfl
theorem binds_of {i : Nat} {F : List Ct} (h : FOk i F) (hok : ∀ c ∈ F, OkC c) (Hs : List ByteArray) (Hb : List Bn) (cn : ByteArray) (now : Int) : bindK (allK Hs Hb F) cn now = bindF Hb F cn now := by
  unfold bindK bindF
  rw [find_of h hok]
  by_cases hr : fdB cn = rootB
  · rw [if_pos hr, if_pos hr]
    show livingK (rkRt Hs Hb) now = Hb
    unfold livingK rkRt
    simp
  · rw [if_neg hr, if_neg hr]
    cases hc : liveF F (fdB cn) now with
    | none => rfl
    | some c =>
      have := (liveF_some hc).2.1
      show livingK (rkOf c) now = _
      rw [living_of, this]

/-- Deepest. -/
def stepK (n : ByteArray) (now : Int) (best : ByteArray) (x : Rk) : ByteArray := if liveK now x && aboveB x.n.data.toList n.data.toList && decide (cnt best.data.toList < cnt x.n.data.toList) then x.n else best
def deepKK (G : List Rk) (n : ByteArray) (now : Int) : ByteArray := G.foldl (stepK n now) rootB
theorem deepK_eq {lv : Nat → Bool} : ∀ {N k : Nat}, k ≤ N → (k = 0 ∨ lv k = true) → (∀ j, k < j → j ≤ N → lv j = false) → deepK lv N = k := by
  intro N
  induction N with
  | zero => intro k hk _ _; unfold deepK; omega
  | succ N ih =>
    intro k hk h1 h2
    unfold deepK
    by_cases e : k = N + 1
    · subst e
      rcases h1 with h1 | h1
      · omega
      · rw [h1]; rfl
    · rw [h2 (N + 1) (by omega) (Nat.le_refl _)]
      exact ih (by omega) h1 (fun j hj hj2 => h2 j hj (by omega))
theorem last_of {c n : ByteArray} (hc : isName c.data.toList = true) (hf : foldL c.data.toList = c.data.toList) (h : aboveB c.data.toList n.data.toList = true) : cnt c.data.toList ≤ (labs (fdB n).data.toList).length ∧ c = lastB (fdB n) (cnt c.data.toList) := by
  obtain ⟨_, hn, hp⟩ := above_iff.1 h
  have hfn := (fd_name hn).1
  have hcl : cnt c.data.toList = (labs c.data.toList).length := (enc_of hc).2.2.1
  rw [← fl_fd hn] at hp
  have hle := hp.length_le
  rw [fl_len, fl_len, ← hcl] at hle
  refine ⟨hle, ?_⟩
  obtain ⟨l1, _, _⟩ := last_name hfn _ hle
  have e1 : fl (lastN (fdB n).data.toList (cnt c.data.toList)) = fl c.data.toList := by
    rw [fl_last hfn _ hle, hcl, ← fl_len]
    exact (List.prefix_iff_eq_take.1 hp).symm
  have e2 := (fold_inj l1 hc).2 e1
  rw [hf] at e2
  refine bytes_ext ?_
  rw [lastB_list]
  have e3 : foldL (lastN (fdB n).data.toList (cnt c.data.toList)) = lastN (fdB n).data.toList (cnt c.data.toList) := by
    rw [last_drop hfn]
    have hfl := (fd_name hn).2
    unfold foldL at hfl ⊢
    rw [List.map_drop, hfl]
  exact e2.symm.trans e3
theorem deep_of {i : Nat} {F : List Ct} (h : FOk i F) (hok : ∀ c ∈ F, OkC c) (Hs : List ByteArray) (Hb : List Bn) (n : ByteArray) (now : Int) : deepKK (allK Hs Hb F) n now = deepF F n now := by
  unfold deepKK deepF
  cases hn : isName n.data.toList with
  | false =>
    rw [if_neg (by simp)]
    have : ∀ (G : List Rk) (b : ByteArray), G.foldl (stepK n now) b = b := fun G => by
      induction G with
      | nil => intro b; rfl
      | cons x G ih =>
        intro b
        rw [List.foldl_cons, ih]
        have : aboveB x.n.data.toList n.data.toList = false := by
          cases e : aboveB x.n.data.toList n.data.toList with
          | false => rfl
          | true => rw [(above_iff.1 e).2.1] at hn; cases hn
        unfold stepK
        rw [this]; simp
    exact this _ _
  | true =>
    rw [if_pos rfl]
    have hfn := (fd_name hn).1
    -- the walk over the cuts
    have inv : ∀ (K : List Ct), (∀ c ∈ K, c ∈ F) → ∀ (b : ByteArray) (k : Nat), k ≤ (labs (fdB n).data.toList).length → b = lastB (fdB n) k → (k = 0 ∨ lvF F (fdB n) now k = true) →
        ∃ k', k ≤ k' ∧ k' ≤ (labs (fdB n).data.toList).length ∧ (K.map rkOf).foldl (stepK n now) b = lastB (fdB n) k' ∧ (k' = 0 ∨ lvF F (fdB n) now k' = true) ∧ ∀ c ∈ K, now < c.u → aboveB c.n.data.toList n.data.toList = true → cnt c.n.data.toList ≤ k' := by
      intro K
      induction K with
      | nil => intro _ b k hk hb hl; exact ⟨k, Nat.le_refl _, hk, hb, hl, fun c hc => by simp at hc⟩
      | cons c K ih =>
        intro hK b k hk hb hl
        have hcF := hK c (by simp)
        have hcb : cnt b.data.toList = k := by rw [hb, lastB_list]; exact (last_name hfn k hk).2.2
        rw [List.map_cons, List.foldl_cons]
        by_cases ht : now < c.u ∧ aboveB c.n.data.toList n.data.toList = true
        · obtain ⟨hu, ha⟩ := ht
          obtain ⟨h1, h2⟩ := last_of (hok c hcF).nm.nm (hok c hcF).nm.fo ha
          have hlv : lvF F (fdB n) now (cnt c.n.data.toList) = true := by
            unfold lvF
            rw [← h2, ← find_live h.dis]
            rw [List.find?_isSome]
            exact ⟨c, hcF, by simp [hu]⟩
          by_cases hlt : k < cnt c.n.data.toList
          · have e : stepK n now b (rkOf c) = c.n := by
              unfold stepK liveK rkOf
              rw [hcb]
              simp [hu, ha, hlt]
            rw [e]
            obtain ⟨k', q1, q2, q3, q4, q5⟩ := ih (fun x hx => hK x (by simp [hx])) c.n _ h1 h2 (.inr hlv)
            refine ⟨k', by omega, q2, q3, q4, fun x hx hxu hxa => ?_⟩
            rcases List.mem_cons.1 hx with rfl | hx
            · exact q1
            · exact q5 x hx hxu hxa
          · have e : stepK n now b (rkOf c) = b := by
              unfold stepK liveK rkOf
              rw [hcb]
              simp [hlt]
            rw [e]
            obtain ⟨k', q1, q2, q3, q4, q5⟩ := ih (fun x hx => hK x (by simp [hx])) b k hk hb hl
            refine ⟨k', q1, q2, q3, q4, fun x hx hxu hxa => ?_⟩
            rcases List.mem_cons.1 hx with rfl | hx
            · omega
            · exact q5 x hx hxu hxa
        · have e : stepK n now b (rkOf c) = b := by
            unfold stepK liveK rkOf
            rw [if_neg]
            simp only [Bool.false_or, Bool.and_eq_true, decide_eq_true_eq]
            exact fun q => ht q.1
          rw [e]
          obtain ⟨k', q1, q2, q3, q4, q5⟩ := ih (fun x hx => hK x (by simp [hx])) b k hk hb hl
          refine ⟨k', q1, q2, q3, q4, fun x hx hxu hxa => ?_⟩
          rcases List.mem_cons.1 hx with rfl | hx
          · exact absurd ⟨hxu, hxa⟩ ht
          · exact q5 x hx hxu hxa
    have e0 : stepK n now rootB (rkRt Hs Hb) = rootB := by unfold stepK rkRt; split <;> rfl
    unfold allK
    rw [List.foldl_cons, e0]
    obtain ⟨k', _, q2, q3, q4, q5⟩ := inv F (fun c hc => hc) rootB 0 (Nat.zero_le _) (last_zero _).symm (.inl rfl)
    rw [q3]
    congr 1
    refine (deepK_eq q2 q4 (fun j hj hj2 => ?_)).symm
    cases e : lvF F (fdB n) now j with
    | false => rfl
    | true =>
      exfalso
      unfold lvF at e
      obtain ⟨c, hc⟩ := Option.isSome_iff_exists.1 e
      obtain ⟨r1, r2, r3⟩ := liveF_some hc
      obtain ⟨l1, _, l3⟩ := last_name hfn j hj2
      have ha : aboveB c.n.data.toList n.data.toList = true := above_iff.2 ⟨by rw [r2, lastB_list]; exact l1, hn, by rw [r2, lastB_list, fl_last hfn j hj2, fl_fd hn]; exact List.take_prefix _ _⟩
      have := q5 c r1 r3 ha
      rw [r2, lastB_list, l3] at this
      omega

end Cu
end Go.Proofs.YtnjgdfmldjgloaaGreat
