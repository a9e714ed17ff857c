/- Put of the document's Cuts: the cut that is made. -/
import Derived.Test.YtnjgdfmldjgloaaGreatXCxF
namespace Go.Proofs.YtnjgdfmldjgloaaGreat
open Go.RowKit
open Pl
namespace Cu

/-- How far Put is: its own copy of the delegation, the new cut. -/
structure PA (w wr : World) (D : Array Value) (q : RQ) (x : Rk) : Prop where
  bel : Below w.heap.size w wr
  blk : Blk wr w.heap.size D 39
  ct : RkAt wr q x
  new : ∀ k, rkf q k → w.heap.size ≤ k
theorem PA.below {w wr wn : World} {D : Array Value} {q : RQ} {x : Rk} (h : PA w wr D q x) (hb : Below wr.heap.size wr wn) : PA w wn D q x := ⟨next h.bel hb, h.blk.below hb, h.ct.below hb, h.new⟩
theorem PA.bind {w wr w1 w2 : World} {D : Array Value} {q : RQ} {x : Rk} (h : PA w wr D q x) (hb1 : Below wr.heap.size wr w1) {v' : Value} {b : Bn}
    (ow : w2.ownsRow 0 65 5 v' (x.bs.length + 1) (bC x.bs ++ bV b)) (hg : w1.grownBy w2 q.bv.ownBlock) (hv' : ∀ k, v'.ownBlock = some k → q.bv.ownBlock = some k ∨ wr.heap.size ≤ k) (hlen : x.bs.length + 1 ≤ 256) (hf : OkB b) :
    PA w (w2.setCell ⟨q.p, 5, none⟩ v') D { q with bv := v' } { x with bs := x.bs ++ [b] } := by
  obtain ⟨r1, r2, r3⟩ := h.ct.bind_app hb1 ow hg hv' hlen hf
  refine ⟨Turn.below h.bel r2 h.bel.size (fun i hi => h.new i (hi.imp id .inr)), r2.blk h.blk (fun e => ?_), r1, fun k hk => ?_⟩
  · rcases e with e | e
    · have := h.blk; rw [e] at this; exact absurd (blk_tag this h.ct.blk) (by decide)
    · exact absurd (own_tag h.ct.bs e h.blk) (by decide)
  · rcases hk with e | e | e
    · exact h.new k (.inl e)
    · exact h.new k (.inr (.inl e))
    · rcases r3 k e with e | e
      · exact h.new k (.inr (.inr e))
      · exact Nat.le_trans h.bel.size e
/-- The cuts that stay besides. -/
structure PX (w wr : World) (D : Array Value) (q : RQ) (x : Rk) (v : Value) (n : Nat) (K : List (Rk × RQ)) : Prop where
  pa : PA w wr D q x
  own : wr.ownsRow w.heap.size 67 1 v n (pC K)
theorem PX.below {w wr wn : World} {D : Array Value} {q : RQ} {x : Rk} {v : Value} {n : Nat} {K : List (Rk × RQ)} (h : PX w wr D q x v n K) (hb : Below wr.heap.size wr wn) : PX w wn D q x v n K := ⟨h.pa.below hb, own_past h.own hb⟩
theorem rk_far {w : World} {q : RQ} {x : Rk} (h : RkAt w q x) {k : Nat} {C : Array Value} {t : TypeId} (hb : Blk w k C t) (h1 : t ≠ 69) (h2 : t ≠ 9) (h3 : t ≠ 65) : ¬ rkf q k := by
  rintro (rfl | e | e)
  · exact h1 (blk_tag hb h.blk)
  · exact h2 (own_tag h.hosts e hb).symm
  · exact h3 (own_tag h.bs e hb).symm
theorem PX.grow {w wr wn : World} {D : Array Value} {q : RQ} {x : Rk} {v v' : Value} {n n' : Nat} {K K' : List (Rk × RQ)} (h : PX w wr D q x v n K) (h1 : wn.ownsRow w.heap.size 67 1 v' n' (pC K')) (h2 : wr.grownBy wn v.ownBlock) : PX w wn D q x v' n' K' := by
  have T : Turn (fun k => v.ownBlock = some k) wr wn := Turn.of_grown h2 (fun k e => e)
  refine ⟨⟨Turn.below h.pa.bel T h.pa.bel.size (fun i hi => (h.own.lt i hi).1), T.blk h.pa.blk (fun e => absurd (own_tag h.own e h.pa.blk) (by decide)), h.pa.ct.turn T (fun k hk e => ?_), h.pa.new⟩, h1⟩
  obtain ⟨cur, hc⟩ := own_cells h.own e
  exact rk_far h.pa.ct hc (by decide) (by decide) (by decide) hk
/-- The end of Put. -/
theorem rput_end {w w6 : World} {gr n : Nat} {V lv : Value} {L K : List (Rk × RQ)} {D : Array Value} {q : RQ} {x : Rk} (h : RS w gr V L) (hK : K.Sublist L) (hl : K.length + 1 ≤ 129) (hn : n = (K ++ [(x, q)]).length) (hp : PX w w6 D q x lv n (K ++ [(x, q)])) :
    RS (w6.setCell ⟨gr, 0, none⟩ lv) gr lv (K ++ [(x, q)]) ∧ Turn (fun k => k = gr) w (w6.setCell ⟨gr, 0, none⟩ lv) ∧ ∀ k, rsf gr lv (K ++ [(x, q)]) k → rsf gr V L k ∨ w.heap.size ≤ k := by
  have h6 := h.below hp.pa.bel
  have T : Turn (fun k => k = gr) w6 (w6.setCell ⟨gr, 0, none⟩ lv) := Turn.of_set (S := fun k => k = gr) w6 (p := ⟨gr, 0, none⟩) rfl lv
  refine ⟨⟨h6.blk.set 0 lv, ?_, fun p hp' => ?_, ?_, by rw [List.length_append]; exact hl⟩, (Turn.of_below hp.pa.bel).same T, ?_⟩
  · rw [← hn]
    exact T.row (own_base hp.own (Nat.zero_le _)) (fun k hk e => by subst e; exact absurd (own_tag hp.own hk h6.blk) (by decide))
  · rcases List.mem_append.1 hp' with hp' | hp'
    · exact (h6.cuts p (hK.subset hp')).turn T (fun k hk e => by subst e; exact rk_far (h6.cuts p (hK.subset hp')) h6.blk (by decide) (by decide) (by decide) hk)
    · simp at hp'
      subst hp'
      exact hp.pa.ct.turn T (fun k hk e => by subst e; exact rk_far hp.pa.ct h6.blk (by decide) (by decide) (by decide) hk)
  · refine List.pairwise_append.2 ⟨List.Pairwise.sublist hK h.sep, List.pairwise_singleton _ _, fun a ha b hb => ?_⟩
    simp at hb
    subst hb
    have ha2 := h.cuts a (hK.subset ha)
    refine ⟨fun e => ?_, fun k hk hk2 => ?_⟩
    · have h1 := ha2.lt a.2.p (.inl rfl)
      have h2 := hp.pa.new q.p (.inl rfl)
      have e2 : a.2.p = q.p := e
      omega
    · have h1 := ha2.lt k (.inr (.inr hk))
      have h2 := hp.pa.new k (.inr (.inr hk2))
      omega
  · rintro k (e | e | ⟨p, hp', e⟩)
    · exact .inl (.inl e)
    · exact .inr (hp.own.lt k e).1
    · rcases List.mem_append.1 hp' with hp' | hp'
      · exact .inl (.inr (.inr ⟨p, hK.subset hp', e⟩))
      · simp at hp'
        subst hp'
        exact .inr (hp.pa.new k e)
theorem rput_no {w : World} {d : Dg} {hv gv : Value} (gr : Nat) (hd : DIn w d hv gv) (fr : ByteArray) (now : Int) (hf : fr.size ≤ maxLen) (hm : mayD d fr now = false) :
    Calls Tryz.prog 14 #[.pointer (some ⟨gr, 0, none⟩), .agg (dV d hv gv), .string fr, .int .i64 now] w fun e w' => e = .returned (.int .i64 1500) ∧ Below w.heap.size w w' := by
  have hb0 : Below w.heap.size w (w.alloc (.cells (dV d hv gv) 39)) := lay (Below.refl _ _) _
  have hdm := delMay_any (hd.below hb0) fr now hf false hm
  have HB0 : Hid (Below w.heap.size w (w.alloc (.cells (dV d hv gv) 39))) := hb0
  obtain ⟨xh, ch, hhv, _⟩ := hd.hc
  obtain ⟨xg, cg, hgv, _⟩ := hd.gr.src
  subst hhv hgv
  unfold dV at hdm HB0 ⊢
  clear hd hm hb0
  go_enter Tryz.func14, Tryz.ntmps14
  go_wp2_with (go_at_call 47; go_must (refine hdm.mono ?_); rintro e w1 ⟨V, rfl, _, b1⟩)
  go_ret
  exact ⟨rfl, next HB0.out b1⟩

theorem fstR_app (L M : List (Rk × RQ)) : fstR (L ++ M) = fstR L ++ fstR M := by unfold fstR; simp
theorem fstR_len (L : List (Rk × RQ)) : (fstR L).length = L.length := by unfold fstR; simp
theorem fstR_filter (P : Rk → Bool) (L : List (Rk × RQ)) : fstR (L.filter fun e => P e.1) = (fstR L).filter P := by
  unfold fstR
  rw [List.filter_map]
  rfl
theorem fstR_erase (L : List (Rk × RQ)) (i : Nat) : fstR (L.eraseIdx i) = (fstR L).eraseIdx i := by
  unfold fstR
  induction L generalizing i with
  | nil => rfl
  | cons a L ih =>
    cases i with
    | zero => rfl
    | succ i => simp only [List.eraseIdx_cons_succ, List.map_cons, ih]
theorem glK_len (n f : ByteArray) (now : Int) : ∀ (gl : List Bn) (B : List Bn), (gl.foldl (glK n f now) B).length ≤ B.length + gl.length := by
  intro gl
  induction gl with
  | nil => intro B; simp
  | cons g gl ih =>
    intro B
    rw [List.foldl_cons, List.length_cons]
    refine Nat.le_trans (ih _) ?_
    unfold glK
    split
    · omega
    · rw [List.length_append]; simp; omega
theorem pC_take (K : List (Rk × RQ)) (k : Nat) : (pC K).take (k * 1) = pC (K.take k) := by unfold pC; rw [Nat.mul_one, List.map_take]
theorem pC_drop (K : List (Rk × RQ)) (k : Nat) : (pC K).drop (k * 1) = pC (K.drop k) := by unfold pC; rw [Nat.mul_one, List.map_drop]
theorem liveR_bel {w : World} {q : RQ} {x : Rk} (h : RkAt w q x) (now : Int) (b : Bool) (hb : liveK now x = b) :
    Calls Tryz.prog 50 #[.pointer (some ⟨q.p, 0, none⟩), .int .i64 now] w fun e w' => e = .returned (.bool b) ∧ Below w.heap.size w w' := (liveR_any h now b hb).mono (fun e w' h => ⟨h.1, by rw [h.2]; exact Below.refl _ _⟩)

/-- What Put does when the new cut is made. -/
def PutRest (w : World) (gr : Nat) (V : Value) (L : List (Rk × RQ)) (d : Dg) (fr : ByteArray) (now : Int) (e : Ending) (w' : World) : Prop :=
  e = .returned (.int .i64 0) ∧ ∃ V' L', RS w' gr V' L' ∧ fstR L' = putK (fstR L) d fr now ∧ Turn (fun k => k = gr) w w' ∧ ∀ k, rsf gr V' L' k → rsf gr V L k ∨ w.heap.size ≤ k

end Cu
end Go.Proofs.YtnjgdfmldjgloaaGreat
