/- Due of a Table. -/
import Derived.Test.YtbldoplemfjcjaaOuN
namespace Go.Proofs.Ytbldoplemfjcjaa
open Go.RowKit
open Pl
namespace Ou

/-- What is held, when some keys have come. -/
def leftT (left : Lit → Bool) (now : Int) (T : List Tn) : List Tn := T.filter fun t => left (kyL (keyA t.x)) || !dueB now t
def restT (now : Int) (T : List Tn) : List Tn := T.filter fun t => !dueB now t
theorem left_end {left : Lit → Bool} (h : ∀ kl, left kl = false) (now : Int) (T : List Tn) : leftT left now T = restT now T := by
  unfold leftT restT
  refine List.filter_congr (fun t _ => ?_)
  rw [h]; rfl
theorem left_start {D : DataW Value} {L : List Gr} {T : List Tn} (hm : MapOf D L) (hg : Good L T) (now : Int) : leftT (Maps.has D) now T = T := by
  unfold leftT
  refine List.filter_eq_self.2 (fun t ht => ?_)
  obtain ⟨g, hgL, hk⟩ := hg.cov t ht
  rw [mapOf_has hm hg (hg.ok t ht).key, List.any_eq_true.2 ⟨g, hgL, by simpa using hk⟩]
  rfl
theorem left_next {T : List Tn} (hok : ∀ t ∈ T, OkA t.x) {g : Gr} (hg : OkK g.k) {left : Lit → Bool} (hl : left (kyL g.k) = true) (now : Int) (hx : g.xs = (leftT left now T).filter (mt g.k)) :
    (g.xs.filter fun t => !dueB now t) = (leftT (nextL left g) now T).filter (mt g.k) ∧ (leftT (nextL left g) now T).Sublist (leftT left now T) ∧ (∀ l, l ≠ g.k → (leftT (nextL left g) now T).filter (mt l) = (leftT left now T).filter (mt l)) ∧
      ((doneT (nextL left g) T).filter (dueB now)).Perm ((doneT left T).filter (dueB now) ++ g.xs.filter (dueB now)) := by
  have hx2 : g.xs = T.filter (mt g.k) := by
    rw [hx]
    unfold leftT
    rw [List.filter_filter]
    refine List.filter_congr (fun t _ => ?_)
    cases hm : mt g.k t with
    | false => rfl
    | true => rw [mt_iff.1 hm, hl]; rfl
  have hn : ∀ t ∈ T, nextL left g (kyL (keyA t.x)) = (left (kyL (keyA t.x)) && !mt g.k t) := fun t ht => by
    rw [nextL_at hg (hok t ht).key]; rfl
  have hsub : leftT (nextL left g) now T = (leftT left now T).filter (fun t => nextL left g (kyL (keyA t.x)) || !dueB now t) := by
    unfold leftT
    rw [List.filter_filter]
    refine List.filter_congr (fun t ht => ?_)
    rw [hn t ht]
    cases left (kyL (keyA t.x)) <;> cases mt g.k t <;> cases dueB now t <;> rfl
  refine ⟨?_, by rw [hsub]; exact List.filter_sublist, fun l hl' => ?_, ?_⟩
  · rw [hx2]
    unfold leftT
    rw [List.filter_filter, List.filter_filter]
    refine List.filter_congr (fun t ht => ?_)
    rw [hn t ht]
    cases left (kyL (keyA t.x)) <;> cases mt g.k t <;> cases dueB now t <;> rfl
  · unfold leftT
    rw [List.filter_filter, List.filter_filter]
    refine List.filter_congr (fun t ht => ?_)
    rw [hn t ht]
    cases hm : mt l t with
    | false => rfl
    | true =>
      have : mt g.k t = false := by
        have h1 := mt_iff.1 hm
        unfold mt
        rw [h1]
        simpa using hl'
      rw [this]
      cases left (kyL (keyA t.x)) <;> cases dueB now t <;> rfl
  · have := (done_next hok hg hl).filter (dueB now)
    rw [List.filter_append, ← hx2] at this
    exact this

theorem rg_tight {w : World} {b r n cnt : Nat} {D : DataW Value} {left : Lit → Bool} (h : w.ranges Try.prog 67 rE b r n D left cnt) : w.ranges Try.prog 67 rE b r (Maps.size D) D left cnt := by
  obtain ⟨es, clock, since, seen, c0, hb, F, hs, rfl, hr, h1, h2, h3, h4, h5, h6⟩ := h
  exact ⟨es, clock, since, seen, c0, hb, F, by simp [Maps.size, length_sorted], rfl, hr, h1, h2, h3, h4, h5, h6⟩

/-- How far Due is. -/
structure DL (w0 w : World) (gs most added b r : Nat) (L0 L : List Gr) (T0 : List Tn) (now : Int) (left : Lit → Bool) (cnt : Nat) (v : Value) (m : Nat) (xs : List Tn) : Prop where
  rg : Rg w gs most added b r L (leftT left now T0) left cnt
  own : w.ownsRow w0.heap.size 73 9 v m (tF xs)
  perm : xs.Perm ((doneT left T0).filter (dueB now))
  len : m = xs.length
  turn : Turn (foot gs b L0) w0 w
  foot' : ∀ k, foot gs b L k → foot gs b L0 k ∨ w0.heap.size ≤ k
  apart : ∀ k, v.ownBlock = some k → ¬ foot gs b L k
/-- A round's end: the range goes on over what keep has left. -/
theorem DL.step {w0 w w4 w5 w6 w7 : World} {gs most added b r : Nat} {L0 L L' : List Gr} {T0 : List Tn} {now : Int} {left : Lit → Bool} {cnt cnt2 : Nat} {v v' : Value} {m q : Nat} {xs : List Tn} {g : Gr} (h : DL w0 w gs most added b r L0 L T0 now left cnt v m xs) (hok : ∀ t ∈ T0, OkA t.x)
    (hlt0 : ∀ k, foot gs b L0 k → k < w0.heap.size) (hr0 : w0.heap.size ≤ r) (hgL : g ∈ L) (hgk : OkK g.k) (hlg : left (kyL g.k) = true)
    (hrg4 : Rg w4 gs most added b r L (leftT left now T0) (nextL left g) cnt2) (hg4 : w.grownBy w4 (some r)) (hb5 : Below w4.heap.size w4 w5)
    (ho6 : w6.ownsRow w0.heap.size 73 9 v' (m + q) (tF xs ++ tF (g.xs.filter (dueB now)))) (hg6 : w5.grownBy w6 v.ownBlock) (hk6 : ∀ k, v'.ownBlock = some k → v.ownBlock = some k ∨ w5.heap.size ≤ k) (hq : q = (g.xs.filter (dueB now)).length)
    (hs7 : St w7 gs most added b L' (leftT (nextL left g) now T0)) (ht7 : Turn (fun i => i = b) w6 w7) (hf7 : ∀ i, foot gs b L' i → foot gs b L i ∨ w6.heap.size ≤ i) (hkept : Kept w6 w7 b L L' g.k) :
    ∃ cnt3, cnt3 ≤ cnt2 ∧ DL w0 w7 gs most added b r L0 L' T0 now (nextL left g) cnt3 v' (m + q) (xs ++ g.xs.filter (dueB now)) := by
  obtain ⟨s, seen, c, hit⟩ := rg_iter h.rg
  have hvr : ∀ k, v.ownBlock = some k → k ≠ r := fun k hk e => row_iter h.own hit k hk e
  have hrg5 := hrg4.below hb5
  have hrg6 : Rg w6 gs most added b r L (leftT left now T0) (nextL left g) cnt2 := hrg5.grown hg6 (fun k hk e => h.apart k e hk) (fun e => hvr r e rfl)
  obtain ⟨k6, D6, hr6, hm6, hk6'⟩ := hrg6.rg
  have hself : nextL left g (kyL g.k) = false := by
    unfold nextL
    rw [WideAt.sameKey_self (isKyL _), Bool.not_true, Bool.and_false]
  obtain ⟨n7, D7, cnt3, hr7, hm7, _, hc7⟩ := hkept r k6 D6 (nextL left g) cnt2 hr6 hm6 (by omega) hself
  have hl' : L'.length ≤ 16 := by
    have := good_few hs7.hold.good
    have := hs7.len
    have := hs7.m2
    omega
  have hb4 : Turn (fun k => k = r) w w4 := Turn.of_grown hg4 (fun _ e => (Option.some.inj e).symm)
  have hfl : ∀ k, foot gs b L k → k < w.heap.size := h.rg.st.footlt
  have h6 : Turn (foot gs b L0) w0 w6 := ((h.turn.trans hb4 (fun i e => .inr (by omega))).past hb5).trans (Turn.of_grown (S := fun k => v.ownBlock = some k) hg6 (fun _ e => e)) (fun i e => .inr (h.own.lt i e).1)
  have hsz := hb4.size
  have hsz5 := hb5.size
  have hsz6 := hg6.size
  have hap : ∀ k, v'.ownBlock = some k → ¬ foot gs b L k := fun k hk hf => by
    rcases hk6 k hk with h1 | h1
    · exact h.apart k h1 hf
    · have := hfl k hf; omega
  refine ⟨cnt3, hc7, ⟨⟨_, D7, rg_tight hr7, hm7, by rw [mapOf_size hm7]; omega⟩, hs7⟩, ?_, ?_, by rw [List.length_append, h.len, hq], ?_, fun k hk => ?_, fun k hk hf => ?_⟩
  · rw [tF_app]
    exact ht7.row ho6 (fun k hk e => hap k hk (.inr (.inl e)))
  · have hx := (h.rg.st.hold.good.grp g hgL).1
    have := (left_next hok hgk hlg now hx).2.2.2
    exact (h.perm.append_right _).trans this.symm
  · exact h6.trans ht7 (fun i e => by
      subst e
      rcases h.foot' i (.inr (.inl rfl)) with h1 | h1
      · exact .inl h1
      · exact .inr h1)
  · rcases hf7 k hk with h1 | h1
    · exact h.foot' k h1
    · have := h.turn.size
      exact .inr (by omega)
  · rcases hf7 k hf with h1 | h1
    · exact hap k hk h1
    · have := (ho6.lt k hk).2
      omega

end Ou
end Go.Proofs.Ytbldoplemfjcjaa
