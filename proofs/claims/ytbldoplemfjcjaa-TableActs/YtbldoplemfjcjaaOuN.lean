/- All of a Table. -/
import Derived.Test.YtbldoplemfjcjaaOuI
namespace Go.Proofs.Ytbldoplemfjcjaa
open Go.RowKit
open Pl
namespace Ou

theorem rg_iter {w : World} {gs most added b r : Nat} {L : List Gr} {T : List Tn} {left : Lit → Bool} {cnt : Nat} (h : Rg w gs most added b r L T left cnt) : ∃ s seen c, w.heap[r]? = some (.mapIter (some b) s seen c) := by
  obtain ⟨k, D, hr, _, _⟩ := h.rg
  obtain ⟨es, clock, since, seen, c0, hb, F, hs, _, hrr, _⟩ := hr
  exact ⟨_, _, _, hrr⟩
theorem row_iter {w : World} {B e z n : Nat} {v : Value} {ys : List Value} (hr : w.ownsRow B e z v n ys) {r : Nat} {m : Option Nat} {s : Nat} {seen : Array Nat} {c : Nat} (hb : w.heap[r]? = some (.mapIter m s seen c)) : ∀ i, v.ownBlock = some i → ¬ i = r := by
  intro i hi e
  subst e
  rcases hr.2 with ⟨hv, _⟩ | ⟨g', cap, cur, hv, _, hh, _⟩
  · rw [hv] at hi; simp [Value.ownBlock] at hi
  · rw [hv] at hi
    simp [Value.ownBlock] at hi
    subst hi
    rw [hh] at hb; cases hb
theorem Rg.grown {w w' : World} {gs most added b r : Nat} {L : List Gr} {T : List Tn} {left : Lit → Bool} {cnt : Nat} (h : Rg w gs most added b r L T left cnt) {o : Option Nat} (hg : w.grownBy w' o) (ho : ∀ k, foot gs b L k → o ≠ some k) (hr : o ≠ some r) : Rg w' gs most added b r L T left cnt := by
  obtain ⟨k, D, hrg, hm, hk⟩ := h.rg
  exact ⟨⟨k, D, hrg.kept hg (fun e => ho b (.inr (.inl rfl)) e.symm) (fun e => hr e.symm), hm, hk⟩, h.st.turn (Turn.of_grown (S := fun q => o = some q) hg (fun _ e => e)) (fun k hk e => ho k hk e)⟩

/-- How far All is. -/
structure AL (w0 w : World) (gs most added b r : Nat) (L : List Gr) (T : List Tn) (left : Lit → Bool) (cnt : Nat) (v : Value) (m : Nat) (xs : List Tn) : Prop where
  rg : Rg w gs most added b r L T left cnt
  own : w.ownsRow w0.heap.size 73 9 v m (tF xs)
  perm : xs.Perm (doneT left T)
  len : m = xs.length
  bel : Below w0.heap.size w0 w
theorem AL.grown {w0 w w' : World} {gs most added b r : Nat} {L : List Gr} {T : List Tn} {left : Lit → Bool} {cnt : Nat} {v v' : Value} {m q : Nat} {xs ys : List Tn} (h : AL w0 w gs most added b r L T left cnt v m xs) (hlt : ∀ k, foot gs b L k → k < w0.heap.size) (ho : w'.ownsRow w0.heap.size 73 9 v' (m + q) (tF xs ++ tF ys)) (hg : w.grownBy w' v.ownBlock) {left' : Lit → Bool} {cnt' : Nat} (hq : q = ys.length)
    (hrg : Rg w gs most added b r L T left' cnt') (hp : (doneT left' T).Perm (doneT left T ++ ys)) : AL w0 w' gs most added b r L T left' cnt' v' (m + q) (xs ++ ys) := by
  obtain ⟨s, seen, c, hit⟩ := rg_iter hrg
  refine ⟨hrg.grown hg (fun k hk e => ?_) (fun e => row_iter h.own hit r e rfl), by rw [tF_app]; exact ho, ?_, by rw [List.length_append, h.len, hq], h.bel.grown hg h.bel.size (fun k e => (h.own.lt k e).1)⟩
  · have h1 := (h.own.lt k e).1
    have h2 := hlt k hk
    omega
  · exact (h.perm.append_right ys).trans hp.symm
theorem AL.moved {w0 w w' : World} {gs most added b r : Nat} {L : List Gr} {T : List Tn} {left : Lit → Bool} {cnt : Nat} {v : Value} {m : Nat} {xs : List Tn} (h : AL w0 w gs most added b r L T left cnt v m xs) (hg : w.grownBy w' (some r)) (hr0 : w0.heap.size ≤ r) : w'.ownsRow w0.heap.size 73 9 v m (tF xs) ∧ Below w0.heap.size w0 w' := by
  obtain ⟨s, seen, c, hit⟩ := rg_iter h.rg
  exact ⟨(Turn.of_grown (S := fun k => k = r) hg (fun k e => (Option.some.inj e).symm)).row h.own (fun k hk e => row_iter h.own hit k hk e), h.bel.grown hg h.bel.size (fun k e => by cases e; exact hr0)⟩

set_option maxRecDepth 20000 in
set_option maxHeartbeats 2000000 in
theorem all_any {w : World} {gs most added b : Nat} {L : List Gr} {T : List Tn} (h : St w gs most added b L T) (hfar : ∀ t ∈ T, Far t.x) :
    Calls Try.prog 20 #[.pointer (some ⟨gs, 0, none⟩)] w fun e w' => ∃ v, e = .returned v ∧ w'.ownsRow w.heap.size 35 8 v T.length (aF (T.map (·.x))) ∧ Below w.heap.size w w' := by
  obtain ⟨i0, hi, hz0, hz1, hz2⟩ := info_parts infoT
  have hcnt := count_any h
  have h16 : T.length ≤ 16 := by have := h.m2; have := h.len; omega
  have HOK : Hid (∀ t ∈ T, OkA t.x) := h.hold.good.ok
  have HFAR : Hid (∀ t ∈ T, Far t.x) := hfar
  have HST : Hid (St w gs most added b L T) := h
  have HLT : Hid (∀ k, foot gs b L k → k < w.heap.size) := h.footlt
  obtain ⟨N, hN⟩ : ∃ N, N = T.length := ⟨_, rfl⟩
  have HN : Hid (N = T.length) := hN
  rw [← hN] at hcnt h16 ⊢
  clear h hfar hN
  go_enter Try.func20, Try.ntmps20
  go_wp2_with (first
    | (go_at_call 24; go_must (refine hcnt.mono ?_); rintro e w1 ⟨rfl, b1⟩; have s1 := HST.out.below b1)
    | (at_make; refine wpList_make_own _ rfl _ _ 70 rfl w.heap.size 73 i0 _ 9 Try.underlying70 hi hz0 hz1 .i64 .i64 _ N rfl rfl rfl (by rw [hz2]; omega) (by unfold maxLen; omega) b1.size ?_; intro w2 own2 grow2; have b2 := grown_below grow2; have s2 := s1.below b2; have B2 := next b1 b2; have c2 := s2.blk.cell 2; simp only [List.getElem?_toArray, List.getElem?_cons_succ, List.getElem?_cons_zero] at c2; obtain ⟨D, hown, hm⟩ := s2.hold.own)
    | (at_range; refine wpList_range_own _ rfl _ 59 rfl 67 70 keyE Try.underlying59 rE b L.length D rfl hown ?_; intro w3 hr3 hg3 hs3)
    | go_in)
  go_frame
  have HS : Hid (AL w w3 gs most added b w2.heap.size L T (Maps.has D) (Maps.size D) (.slice (some ⟨w1.heap.size, 0, none⟩) 0 N) 0 []) := by
    have hfew := good_few s2.hold.good
    have hl := HN.out
    exact ⟨rg_start s2 hm (by omega) hr3 hg3, own_past own2 (grown_below hg3), by rw [done_start hm s2.hold.good], rfl, next B2 (grown_below hg3)⟩
  have HRW : Hid (w.heap.size ≤ w2.heap.size) := B2.size
  generalize w2.heap.size = r at HS HRW ⊢
  clear hcnt b1 s1 own2 grow2 b2 s2 B2 c2 hown hm hr3 hg3 hs3
  go_loopw [3] (fun v wr => ∃ (left : Lit → Bool) (cnt m : Nat) (xs : List Tn) (y : Option Addr) (c : Nat), v = .slice y m c ∧ m ≤ 16 ∧ Hid (AL w wr gs most added b r L T left cnt (.slice y m c) m xs)) (fun _ wr => wr.rangeLeft b r)
  case atStart => exact ⟨_, _, 0, [], _, _, rfl, by omega, HS⟩
  case round =>
    clear HS
    obtain ⟨left, cnt, m, xs, y, c, rfl, hm16, HR1⟩ := hrel
    obtain ⟨kk, D', hr', hm', hk'⟩ := HR1.out.rg.rg
    have hgd := HR1.out.rg.st.hold.good
    go_wp2_with (first
      | (at_next; go_must (refine wpList_next_e _ rfl (.tmp 15) rfl b r kk cnt D' left L T rfl hr' hm' hgd ?_ ?_))
      | go_in)
    · intro _ hl0
      have HE : Hid (AL w wr gs most added b r L T left cnt (.slice y m c) m xs ∧ xs.Perm T ∧ m = N) := by
        have hp := HR1.out.perm
        rw [done_all hl0] at hp
        exact ⟨HR1.out, hp, by rw [HR1.out.len, hp.length_eq, HN.out]⟩
      have htold := told_any HR1.out.rg.st.rise HE.out.2.1 (by have := HN.out; omega) w.heap.size (.slice y m c) m (HE.out.2.2.trans HN.out) wr HE.out.1.own HFAR.out
      clear hr' hm' hgd HR1
      go_wp2_with (go_at_call 33; go_must (refine htold.mono ?_); rintro e w4 ⟨v, rfl, own4, turn4⟩)
      go_ret
      obtain ⟨h1, h2, h3⟩ := HE.out
      refine ⟨_, rfl, ?_, Turn.below h1.bel turn4 h1.bel.size (fun k e => (h1.own.lt k e).1)⟩
      rw [← h3]
      exact own_base own4 h1.bel.size
    · intro g w4 cnt2 hgL hlg hr2 hlt hg2 hsz2 hen
      have hrg2 := HR1.out.rg.moved hr' hr2 hm' hk' hg2
      have hrow := hrg2.st.hold.row g hgL
      obtain ⟨y2, c2, hv⟩ := row_shape hrow
      have hp := done_next HOK.out (hgd.key hgL) hlg
      rw [← (hgd.grp g hgL).1] at hp
      obtain ⟨own4, bel4⟩ := HR1.out.moved hg2 HRW.out
      obtain ⟨q, hq⟩ : ∃ q, q = g.xs.length := ⟨_, rfl⟩
      rw [hv, ← hq] at hrow
      rw [← hq] at hv
      have hmq : m + q ≤ 16 := by
        have h1 := hp.length_eq
        rw [List.length_append, ← HR1.out.perm.length_eq, ← HR1.out.len, ← hq] at h1
        have h2 : (doneT (nextL left g) T).length ≤ T.length := List.length_filter_le _ _
        have := HN.out
        omega
      have HA : Hid (AL w w4 gs most added b r L T left cnt (.slice y m c) m xs ∨ True) := .inr trivial
      have HM : Hid (∀ (v5 : Value) (w5 : World), w5.ownsRow w.heap.size 73 9 v5 (m + q) (tF xs ++ tF g.xs) → w4.grownBy w5 (Value.slice y m c).ownBlock → AL w w5 gs most added b r L T (nextL left g) cnt2 v5 (m + q) (xs ++ g.xs)) := fun v5 w5 ho hg5 => by
        obtain ⟨s, seen, cc, hit⟩ := rg_iter hrg2
        have hlt2 := HLT.out
        refine ⟨hrg2.grown hg5 (fun k hk e => ?_) (fun e => row_iter own4 hit r e rfl), by rw [tF_app]; exact ho, (HR1.out.perm.append_right g.xs).trans hp.symm, by rw [List.length_append, HR1.out.len, hq], bel4.grown hg5 bel4.size (fun k e => (own4.lt k e).1)⟩
        have h1 := (own4.lt k e).1
        have h2 := hlt2 k hk
        omega
      have HLT2 : Hid (wr.rangeLeft b r = cnt ∧ cnt2 < cnt ∧ ∀ (w5 : World) v5 m5 xs5, AL w w5 gs most added b r L T (nextL left g) cnt2 v5 m5 xs5 → w5.rangeLeft b r = cnt2) := ⟨hr'.left_eq, hlt, fun w5 v5 m5 xs5 h5 => by
        obtain ⟨k5, D5, hr5, _⟩ := h5.rg.rg
        exact hr5.left_eq⟩
      have hrw := Row.of_own hrow
      have hgl := tF_len g.xs
      rw [← hq] at hgl
      have hg1 := tF_one g.xs
      have hbs := bel4.size
      rw [hv] at hen
      unfold kyV at hen
      generalize tF g.xs = gx at hrw hgl hg1 HM
      clear hrow hp hq hr2 hg2 hsz2 hr' hm' hgd HR1 hv hgL hlg hlt hrg2 HA
      go_wp2_with (first
        | (at_builtin; refine wpList_appG _ rfl (.tmp 20) (.tmp 21) 70 73 i0 _ 9 96 Try.underlying70 hi hz0 hz1 hz2 rfl (by decide) rfl w.heap.size (.slice y m c) m (tF xs) rfl own4 (.slice y2 q c2) q gx rfl hrw hgl hg1 (by omega) (by unfold maxLen; omega) hbs ?_; intro v5 w5 h1 h3 _; obtain ⟨y5, c5, rfl⟩ := row_shape h1; have HS5 := HM.out _ _ h1 h3)
        | go_in)
      have HS6 : Hid (AL w w5 gs most added b r L T (nextL left g) cnt2 (.slice y5 (m + q) c5) (m + q) (xs ++ g.xs)) := HS5
      clear HS5 h1 h3 HM own4 bel4 hrw hgl hg1 hbs
      go_roundw
      case rel => exact ⟨_, _, m + q, _, y5, c5, rfl, hmq, HS6⟩
      case measure => rw [HLT2.out.1, HLT2.out.2.2 _ _ _ _ HS6.out]; exact HLT2.out.2.1

end Ou
end Go.Proofs.Ytbldoplemfjcjaa
