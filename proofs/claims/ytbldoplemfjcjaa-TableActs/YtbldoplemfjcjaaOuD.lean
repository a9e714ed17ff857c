/- A range over the map of a Table; how many are held. -/
import Derived.Test.YtbldoplemfjcjaaOuC
import Derived.Laws.StructEq
import Derived.Laws.IdiomRangeMap
import Derived.Deep.RegionLaw
namespace Go.Proofs.Ytbldoplemfjcjaa
open Go.RowKit
open Pl
namespace Ou

/-- A range over the map: one of its rows comes. -/
theorem rg_next {w : World} {b r n cnt : Nat} {D : DataW Value} {left : Lit → Bool} {L : List Gr} {T : List Tn} (h : w.ranges Try.prog 67 rE b r n D left cnt) (hm : MapOf D L) (hg : Good L T) (ty : TypeId) :
    (cnt = 0 ∧ (∀ kl, left kl = false) ∧ (Instr.next (.pointer (some ⟨r, 0, none⟩)) false ty).run Try.prog w = .ok (.tuple #[.bool false]) w) ∨
    ∃ (g : Gr) (w' : World) (cnt' : Nat), g ∈ L ∧ left (kyL g.k) = true ∧ (Instr.next (.pointer (some ⟨r, 0, none⟩)) false ty).run Try.prog w = .ok (.tuple #[.bool true, kyV g.k, g.v]) w' ∧
      w'.ranges Try.prog 67 rE b r n D (fun x => left x && !x.sameKey (kyL g.k)) cnt' ∧ cnt' < cnt ∧ w.grownBy w' (some r) ∧ w'.heap.size = w.heap.size ∧ (Instr.entry (.pointer (some ⟨r, 0, none⟩))).run Try.prog w' = .ok (.tuple #[kyV g.k, g.v]) w' := by
  rcases h.next keyE ty with h | ⟨key, v, kl, y, w', cnt', hkey, hlk, hv, hat, hrun, hrg, hlt, hgr, hsz, hen⟩
  · exact .inl h
  · have hh := Maps.has_true_of_atKey hat
    obtain ⟨es, rfl, hp⟩ := hm
    have hh2 := hh
    rw [Maps.has_eq, any_perm hp, List.any_eq_true] at hh2
    obtain ⟨q, hq, hs⟩ := hh2
    obtain ⟨g, hgL, rfl⟩ := List.mem_map.1 hq
    have hkl : kyL g.k = kl := WideAt.sameKey_eq hs
    subst hkl
    have hk2 := keyOf_e (hg.key hgL)
    have : key = kyV g.k := keyE.inj hkey hk2
    subst this
    have ha := mapOf_at (L := L) ⟨es, rfl, hp⟩ hg hgL (.nil)
    rw [hat] at ha
    have hc := rE_inv hv
    rw [hc] at ha
    cases ha
    exact .inr ⟨g, w', cnt', hgL, hlk, hrun, hrg, hlt, hgr, hsz, hen⟩
theorem wpList_next_e (w : World) {ops : Array Oper} {rest : List Oper} {o : Oper} {a : Act} {Q : Exit → Act → World → Prop} (hgd : o.guard = none) (it : Operand) (hop : o.op = Op.next it false) (b r n cnt : Nat) (D : DataW Value) (left : Lit → Bool) (L : List Gr) (T : List Tn)
    (hit : a.eval it = .pointer (some ⟨r, 0, none⟩)) (h : w.ranges Try.prog 67 rE b r n D left cnt) (hm : MapOf D L) (hg : Good L T)
    (hDone : cnt = 0 → (∀ kl, left kl = false) → wpList Try.prog ops Q rest (a.put o.dst (.tuple #[.bool false])) w)
    (hMore : ∀ (g : Gr) (w' : World) (cnt' : Nat), g ∈ L → left (kyL g.k) = true → w'.ranges Try.prog 67 rE b r n D (fun x => left x && !x.sameKey (kyL g.k)) cnt' → cnt' < cnt → w.grownBy w' (some r) → w'.heap.size = w.heap.size →
      (Instr.entry (.pointer (some ⟨r, 0, none⟩))).run Try.prog w' = .ok (.tuple #[kyV g.k, g.v]) w' → wpList Try.prog ops Q rest (a.put o.dst (.tuple #[.bool true, kyV g.k, g.v])) w') :
    wpList Try.prog ops Q (o :: rest) a w := by
  refine wpList_plain hgd fun K' hK' => ?_
  unfold Oper.wp
  rcases rg_next h hm hg o.type with ⟨h0, hl, hrun⟩ | ⟨p, w', cnt', hp, hlk, hrun, hrg, hlt, hgr, hsz, hen⟩
  · simp [execOp, hop, hit, hrun, Result.andThen]
    exact hK' _ _ (hDone h0 hl)
  · simp [execOp, hop, hit, hrun, Result.andThen]
    exact hK' _ _ (hMore p w' cnt' hp hlk hrg hlt hgr hsz hen)

/-- Who has come. -/
def nextL (left : Lit → Bool) (g : Gr) : Lit → Bool := fun x => left x && !x.sameKey (kyL g.k)
def doneT (left : Lit → Bool) (T : List Tn) : List Tn := T.filter fun t => !left (kyL (keyA t.x))
theorem perm_or {α : Type} (p q : α → Bool) : ∀ l : List α, (∀ x ∈ l, p x = true → q x = false) → (l.filter fun x => p x || q x).Perm (l.filter p ++ l.filter q) := by
  intro l
  induction l with
  | nil => intro _; exact List.Perm.refl _
  | cons x l ih =>
    intro h
    have ih' := ih (fun y hy => h y (List.mem_cons_of_mem _ hy))
    cases hp : p x with
    | true =>
      have hq := h x (List.mem_cons_self) hp
      simp only [List.filter_cons, hp, hq, Bool.true_or, if_true, Bool.false_eq_true, if_false, List.cons_append]
      exact ih'.cons x
    | false =>
      cases hq : q x with
      | true =>
        simp only [List.filter_cons, hp, hq, Bool.false_or, if_true, Bool.false_eq_true, if_false]
        exact (ih'.cons x).trans List.perm_middle.symm
      | false =>
        simp only [List.filter_cons, hp, hq, Bool.or_self, Bool.false_eq_true, if_false]
        exact ih'
theorem nextL_at {g : Gr} (hg : OkK g.k) {k : Ke} (hk : OkK k) (left : Lit → Bool) : nextL left g (kyL k) = (left (kyL k) && !decide (k = g.k)) := by
  unfold nextL
  rw [same_ky hk hg]
theorem done_next {T : List Tn} (hok : ∀ t ∈ T, OkA t.x) {g : Gr} (hg : OkK g.k) {left : Lit → Bool} (hl : left (kyL g.k) = true) : (doneT (nextL left g) T).Perm (doneT left T ++ T.filter (mt g.k)) := by
  refine List.Perm.trans (List.Perm.of_eq ?_) (perm_or _ _ T (fun t ht h1 => ?_))
  · unfold doneT
    refine List.filter_congr (fun t ht => ?_)
    rw [nextL_at hg (hok t ht).key]
    unfold mt
    simp
  · unfold mt
    simp only [Bool.not_eq_true'] at h1
    simp only [decide_eq_false_iff_not]
    intro e
    rw [e, hl] at h1
    cases h1
theorem done_all {T : List Tn} {left : Lit → Bool} (h : ∀ kl, left kl = false) : doneT left T = T := by
  unfold doneT
  exact List.filter_eq_self.2 (fun t _ => by rw [h]; rfl)
theorem done_start {D : DataW Value} {L : List Gr} {T : List Tn} (hm : MapOf D L) (hg : Good L T) : doneT (Maps.has D) T = [] := by
  unfold doneT
  refine List.filter_eq_nil_iff.2 (fun t ht => ?_)
  obtain ⟨g, hgL, hk⟩ := hg.cov t ht
  rw [mapOf_has hm hg (hg.ok t ht).key, List.any_eq_true.2 ⟨g, hgL, by simpa using hk⟩]
  simp

/-- A range over the map of a Table, under way. -/
structure Rg (w : World) (gs most added b r : Nat) (L : List Gr) (T : List Tn) (left : Lit → Bool) (cnt : Nat) : Prop where
  rg : ∃ k D, w.ranges Try.prog 67 rE b r k D left cnt ∧ MapOf D L ∧ k ≤ 1000
  st : St w gs most added b L T
theorem rg_far {w : World} {gs most added b r n cnt : Nat} {D : DataW Value} {left : Lit → Bool} {L : List Gr} {T : List Tn} (hr : w.ranges Try.prog 67 rE b r n D left cnt) (h : St w gs most added b L T) : ∀ k, foot gs b L k → k ≠ r := by
  have hne := hr.ne
  obtain ⟨es, clock, since, seen, c0, hb, F, hs, _, hrr, _⟩ := hr
  rintro k (rfl | rfl | ⟨g, hg, e⟩) rfl
  · have h' : w.heap[k]? = some (.cells _ _ (0, 0)) := h.blk
    rw [h'] at hrr; cases hrr
  · exact hne rfl
  · rcases (h.hold.row g hg).2 with ⟨hv, _⟩ | ⟨g', cap, cur, hv, _, hh, _⟩
    · rw [hv] at e; simp [Value.ownBlock] at e
    · rw [hv] at e
      simp [Value.ownBlock] at e
      subst e
      rw [hh] at hrr; cases hrr
theorem Rg.below {w w' : World} {gs most added b r : Nat} {L : List Gr} {T : List Tn} {left : Lit → Bool} {cnt : Nat} (h : Rg w gs most added b r L T left cnt) (hb : Below w.heap.size w w') : Rg w' gs most added b r L T left cnt := by
  obtain ⟨k, D, hr, hm, hk⟩ := h.rg
  exact ⟨⟨k, D, hr.kept (row := none) ⟨hb.os, hb.tape, hb.output, hb.size, fun k hk _ => hb.block k hk⟩ (by simp) (by simp), hm, hk⟩, h.st.below hb⟩
theorem Rg.moved {w w' : World} {gs most added b r : Nat} {L : List Gr} {T : List Tn} {left left' : Lit → Bool} {cnt cnt' k : Nat} {D : DataW Value} (h : Rg w gs most added b r L T left cnt) (hr0 : w.ranges Try.prog 67 rE b r k D left cnt) (hr : w'.ranges Try.prog 67 rE b r k D left' cnt') (hm : MapOf D L) (hk : k ≤ 1000) (hg : w.grownBy w' (some r)) : Rg w' gs most added b r L T left' cnt' :=
  ⟨⟨k, D, hr, hm, hk⟩, h.st.turn (Turn.of_grown (S := fun k => k = r) hg (fun _ e => (Option.some.inj e).symm)) (fun k hk e => rg_far hr0 h.st k hk e)⟩
theorem rg_start {w w' : World} {gs most added b : Nat} {L : List Gr} {T : List Tn} {D : DataW Value} {r : Nat} (h : St w gs most added b L T) (hm : MapOf D L) (hl : L.length ≤ 1000) (hr : w'.ranges Try.prog 67 rE b r L.length D (Maps.has D) (Maps.size D)) (hg : w.grownBy w' none) :
    Rg w' gs most added b r L T (Maps.has D) (Maps.size D) := ⟨⟨_, D, hr, hm, hl⟩, h.below (grown_below hg)⟩
/-- There are no more rows than is held. -/
theorem good_few {L : List Gr} {T : List Tn} (h : Good L T) : L.length ≤ T.length := by
  have h1 : (L.map fun g => g.k).Nodup := List.pairwise_map.2 h.dis
  have h2 : ∀ k ∈ L.map (fun g => g.k), k ∈ T.map (fun t => keyA t.x) := by
    intro k hk
    obtain ⟨g, hg, rfl⟩ := List.mem_map.1 hk
    obtain ⟨t, ht, e⟩ := h.some hg
    exact List.mem_map.2 ⟨t, ht, e⟩
  have := List.Nodup.length_le_of_subset h1 (fun k hk => h2 k hk)
  simpa using this

set_option maxRecDepth 20000 in
set_option maxHeartbeats 2000000 in
theorem count_any {w : World} {gs most added b : Nat} {L : List Gr} {T : List Tn} (h : St w gs most added b L T) :
    Calls Try.prog 24 #[.pointer (some ⟨gs, 0, none⟩)] w fun e w' => e = .returned (.int .i64 (T.length : Int)) ∧ Below w.heap.size w w' := by
  have c2 : w.cell? ⟨gs, 2, none⟩ = some (.map (some b)) := h.blk.cell 2
  obtain ⟨D, hown, hm⟩ := h.hold.own
  have hg := h.hold.good
  have h1 := h.m2
  have h2 := h.len
  have h3 := good_few hg
  have h16 : T.length ≤ 16 := by omega
  have HOK : Hid (∀ t ∈ T, OkA t.x) := hg.ok
  have HST : Hid (∀ w', w'.ranges Try.prog 67 rE b w.heap.size L.length D (Maps.has D) (Maps.size D) → w.grownBy w' none → Rg w' gs most added b w.heap.size L T (Maps.has D) (Maps.size D) ∧ (doneT (Maps.has D) T).length = 0 ∧ Below w.heap.size w w') := fun w' hr hgr => ⟨rg_start h hm (by omega) hr hgr, by rw [done_start hm hg]; rfl, grown_below hgr⟩
  clear h hm hg
  go_enter Try.func24, Try.ntmps24
  go_wp2_with (first
    | (at_range; refine wpList_range_own _ rfl _ 59 rfl 67 70 keyE Try.underlying59 rE b L.length D rfl hown ?_; intro w1 hr1 hg1 hs1; have HS1 := HST.out w1 hr1 hg1; clear hr1 hg1 hs1 HST)
    | go_in)
  go_frame
  obtain ⟨r, hr⟩ : ∃ r, r = w.heap.size := ⟨_, rfl⟩
  have HR : Hid (r = w.heap.size) := hr
  rw [← hr] at HS1 ⊢
  clear hr hown c2
  have HS : Hid (Rg w1 gs most added b r L T (Maps.has D) (Maps.size D) ∧ (doneT (Maps.has D) T).length = 0 ∧ Below r w w1) := HS1
  clear HS1
  go_loopw [3] (fun n wr => ∃ (left : Lit → Bool) (cnt m : Nat), n = .int .i64 (m : Int) ∧ m ≤ 16 ∧ Hid (Rg wr gs most added b r L T left cnt ∧ (doneT left T).length = m ∧ Below r w wr)) (fun _ wr => wr.rangeLeft b r)
  case atStart => exact ⟨_, _, 0, rfl, by omega, HS⟩
  case round =>
    clear HS
    obtain ⟨left, cnt, m, rfl, hm16, HR1⟩ := hrel
    obtain ⟨kk, D', hr', hm', hk'⟩ := HR1.out.1.rg
    have hgd := HR1.out.1.st.hold.good
    go_wp2_with (first
      | (at_next; go_must (refine wpList_next_e _ rfl (.tmp 10) rfl b r kk cnt D' left L T rfl hr' hm' hgd ?_ ?_))
      | go_in)
    · intro _ hl0
      have HM : Hid (m = T.length ∧ Below r w wr) := ⟨by rw [← HR1.out.2.1, done_all hl0], HR1.out.2.2⟩
      clear hr' hm' hgd HR1
      go_wp2
      go_ret
      have := HM.out.1
      rw [HR.out] at HM
      exact ⟨ret_i (by omega), HM.out.2⟩
    · intro g w2 cnt2 hgL hlg hr2 hlt hg2 hsz2 hen
      have hrow := (HR1.out.1.moved hr' hr2 hm' hk' hg2).st.hold.row g hgL
      obtain ⟨y, c, hv⟩ := row_shape hrow
      have hp := (done_next HOK.out (hgd.key hgL) hlg).length_eq
      rw [List.length_append, HR1.out.2.1, ← (hgd.grp g hgL).1] at hp
      have hle : (doneT (nextL left g) T).length ≤ T.length := List.length_filter_le _ _
      obtain ⟨q, hq⟩ : ∃ q, q = g.xs.length := ⟨_, rfl⟩
      rw [← hq] at hv hp
      have HM : Hid (Rg w2 gs most added b r L T (nextL left g) cnt2 ∧ (doneT (nextL left g) T).length = m + q ∧ Below r w w2) := ⟨HR1.out.1.moved hr' hr2 hm' hk' hg2, hp, by have := HR1.out.2.2; have e := HR.out; exact this.grown hg2 (by rw [e]; exact (by rw [e] at this; exact this.size)) (fun _ ek => by cases ek; exact Nat.le_refl _)⟩
      have HLT : Hid (wr.rangeLeft b r = cnt ∧ w2.rangeLeft b r = cnt2 ∧ cnt2 < cnt) := ⟨hr'.left_eq, hr2.left_eq, hlt⟩
      have hmq : m + q ≤ 16 := by omega
      rw [hv] at hen
      unfold kyV at hen
      clear hrow hp hle hq hr2 hg2 hsz2 hr' hm' hgd HR1 hv hgL hlg hlt
      go_wp2
      go_roundw
      case rel => exact ⟨_, _, m + q, by go_num, hmq, HM⟩
      case measure => rw [HLT.out.1, HLT.out.2.1]; exact HLT.out.2.2

end Ou
end Go.Proofs.Ytbldoplemfjcjaa
