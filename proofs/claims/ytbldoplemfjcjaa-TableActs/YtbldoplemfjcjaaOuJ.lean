/- What is asked is laid behind the others of its key: the map's entry, the append, the store. -/
import Derived.Test.YtbldoplemfjcjaaOuI
namespace Go.Proofs.Ytbldoplemfjcjaa
open Go.RowKit
open Pl
namespace Ou

theorem lawE : WideMaps.KeyLaw Try.prog 67 := deep_law_laid laidOutE (m := 3) (by omega) (of_decide_eq_true (by kernel_rfl)) (by kernel_rfl) (by kernel_rfl)
theorem own_same {w w' : World} {b n : Nat} {D : DataW Value} (h : w.ownsMap Try.prog 67 rE b n D) (e : w'.heap[b]? = w.heap[b]?) : w'.ownsMap Try.prog 67 rE b n D := by
  obtain ⟨es, clock, hb, F, hn, rfl⟩ := h
  exact ⟨es, clock, e.trans hb, F, hn, rfl⟩
theorem turn_set (w : World) {b : Nat} {es : Array MapEntry} {clock : Nat} {o' : Obj} (hb : w.heap[b]? = some (.map es clock)) : Turn (fun i => i = b) w (ChangeMaps.setBlock w b o') :=
  ⟨rfl, rfl, rfl, by simp [ChangeMaps.setBlock], fun k _ hne => ChangeMaps.heap_setBlock_other hb _ hne⟩
theorem entry_run {W : World} {b : Nat} {L : List Gr} {T : List Tn} (h : Hold W b L T) (hfew : L.length ≤ 1000) {k : Ke} (hk : OkK k) :
    ∃ (st : Nat) (w1 : World), (Instr.mapEntry 59 (.map (some b)) (kyV k)).run Try.prog W = .ok (.tuple #[vL L k, .int .i64 (st : Int)]) w1 ∧ Turn (fun i => i = b) W w1 ∧ (∃ es clock, w1.heap[b]? = some (.map es clock)) ∧
      ∀ (w2 : World) (y : Option Addr) (n c : Nat) (xs : List Tn), w2.heap[b]? = w1.heap[b]? → ∃ w3, (Instr.entryStore 59 (.map (some b)) (.int .i64 (st : Int)) (.slice y n c)).run Try.prog w2 = .ok () w3 ∧ Turn (fun i => i = b) w2 w3 ∧ ∃ n' D', w3.ownsMap Try.prog 67 rE b n' D' ∧ MapOf D' (setL L k xs (.slice y n c)) := by
  obtain ⟨D, ho, hm⟩ := h.own
  obtain ⟨es, clock, hb, F, hn, hD⟩ := id ho
  obtain ⟨v0, st, es1, clock1, hrun, hv0, hst⟩ := WideElems.entry_then_store lawE Try.underlying59 (fun u => zeroE u) hb F (keyOf_e hk)
  have hlook := h.look hk
  have hv : v0 = vL L k := by
    rcases Maps.fit_look false keyE Try.underlying59 (zeroE W) hb F (keyOf_e hk) with ⟨hr, hno, _⟩ | ⟨e0, y, hm0, h3, hr, _⟩
    · rw [hlook] at hr
      simp at hr
      rcases hv0 with ⟨e1, he1, hk1, _⟩ | ⟨_, e⟩
      · exact absurd hk1 (hno e1 he1)
      · rw [e, hr]
    · rw [hlook] at hr
      simp at hr
      rcases hv0 with ⟨e1, he1, hk1, e⟩ | ⟨hno, _⟩
      · rw [e, hr, entry_eq_of_key ((MapKept.stamped_iff _ _).1 F.stamped).2.2 he1 hm0 (hk1.trans h3.symm)]
      · exact absurd h3 (hno e0 hm0)
  subst hv
  refine ⟨st, _, hrun, turn_set W hb, ⟨_, _, ChangeMaps.heap_setBlock_same hb _⟩, fun w2 y n c xs hw2 => ?_⟩
  rw [ChangeMaps.heap_setBlock_same hb] at hw2
  obtain ⟨es', clock', hrun3, hup⟩ := hst w2 (.slice y n c) hw2
  obtain ⟨w', hrun4, hown', _⟩ := ho.store keyE Try.underlying59 (by unfold maxLen; omega) (keyOf_e hk) (val := .slice y n c) (d := .held (.slice y n c)) (ps := []) rfl
  rw [hup] at hrun4
  simp only [Result.ok.injEq, true_and] at hrun4
  subst hrun4
  refine ⟨_, hrun3, turn_set w2 hw2, _, _, own_same hown' ?_, mapOf_put hm h.good hk xs _⟩
  rw [ChangeMaps.heap_setBlock_same hw2, ChangeMaps.heap_setBlock_same hb]

/-- What stands in the map behind an Add. -/
theorem add_run {W : World} {b : Nat} {L : List Gr} {T : List Tn} (h : Hold W b L T) (hfew : L.length ≤ 1000) {x : Ak} (hx : OkA x) (p : Nat) :
    ∃ (st : Nat) (w1 : World), (Instr.mapEntry 59 (.map (some b)) (kyV (keyA x))).run Try.prog W = .ok (.tuple #[vL L (keyA x), .int .i64 (st : Int)]) w1 ∧ Turn (fun i => i = b) W w1 ∧
      w1.ownsRow 0 73 9 (vL L (keyA x)) (T.filter (mt (keyA x))).length (tF (T.filter (mt (keyA x)))) ∧
      ∀ (v' : Value) (w2 : World), w2.ownsRow 0 73 9 v' ((T.filter (mt (keyA x))).length + 1) (tF (T.filter (mt (keyA x))) ++ tnC ⟨p, x⟩) → w1.grownBy w2 (vL L (keyA x)).ownBlock → (∀ i, v'.ownBlock = some i → (vL L (keyA x)).ownBlock = some i ∨ w1.heap.size ≤ i) →
        ∃ w3, (Instr.entryStore 59 (.map (some b)) (.int .i64 (st : Int)) v').run Try.prog w2 = .ok () w3 ∧ Hold w3 b (setL L (keyA x) (T.filter (mt (keyA x)) ++ [⟨p, x⟩]) v') (T ++ [⟨p, x⟩]) ∧ Turn (fun i => i = b ∨ (vL L (keyA x)).ownBlock = some i) W w3 := by
  obtain ⟨st, w1, hrun, ht, ⟨es1, clock1, hb1⟩, hst⟩ := entry_run h hfew hx.key
  have hbm := h.bmap
  obtain ⟨es, clock, hb⟩ := hbm
  have hrow := h.rowAt (keyA x)
  have hrow1 := ht.row hrow (fun k hk e => row_kind hrow hb k hk e)
  refine ⟨st, w1, hrun, ht, hrow1, fun v' w2 hown hg hnew => ?_⟩
  obtain ⟨y, c, rfl⟩ := row_shape hown
  have hg2 : Turn (fun i => (vL L (keyA x)).ownBlock = some i) w1 w2 := Turn.of_grown hg (fun _ e => e)
  have hvb : ∀ i, (vL L (keyA x)).ownBlock = some i → i ≠ b := fun i hi => row_kind hrow hb i hi
  have hblt : b < w1.heap.size := Nat.lt_of_lt_of_le h.blt ht.size
  have hb2 : w2.heap[b]? = w1.heap[b]? := hg2.block b hblt (fun e => hvb b e rfl)
  obtain ⟨w3, hrun3, ht3, n', D', hown', hm'⟩ := hst w2 y _ c (T.filter (mt (keyA x)) ++ [⟨p, x⟩]) hb2
  have hok : ∀ t ∈ T ++ [(⟨p, x⟩ : Tn)], OkA t.x := fun t ht' => by
    rcases List.mem_append.1 ht' with h1 | h1
    · exact h.good.ok t h1
    · simp at h1; subst h1; exact hx
  have hfil : ∀ l, l ≠ keyA x → (T ++ [(⟨p, x⟩ : Tn)]).filter (mt l) = T.filter (mt l) := fun l hl => by
    rw [List.filter_append]
    have : mt l ⟨p, x⟩ = false := by unfold mt; simp; exact fun e => hl e.symm
    simp [this]
  have hself : (T.filter (mt (keyA x)) ++ [(⟨p, x⟩ : Tn)]) = (T ++ [(⟨p, x⟩ : Tn)]).filter (mt (keyA x)) := by
    rw [List.filter_append]
    have : mt (keyA x) (⟨p, x⟩ : Tn) = true := mt_iff.2 rfl
    simp [this]
  have hvg : ∀ g ∈ L, g.k ≠ keyA x → ∀ i, g.v.ownBlock = some i → (vL L (keyA x)).ownBlock ≠ some i := fun g hg hk i hi e => by
    unfold vL at e
    cases ha : atL L (keyA x) with
    | none => rw [ha] at e; simp [Value.ownBlock] at e
    | some q =>
      rw [ha] at e
      obtain ⟨h1, h2⟩ := atL_some ha
      obtain ⟨a, ha', rfl⟩ := List.getElem_of_mem hg
      obtain ⟨d, hd', rfl⟩ := List.getElem_of_mem h1
      rcases Nat.lt_trichotomy a d with h3 | h3 | h3
      · exact List.pairwise_iff_getElem.1 h.apart a d ha' hd' h3 (hi.trans e.symm)
      · subst h3; exact hk h2
      · exact List.pairwise_iff_getElem.1 h.apart d a hd' ha' h3 (e.trans hi.symm)
  have hT : Turn (fun i => i = b ∨ (vL L (keyA x)).ownBlock = some i) W w3 := ((ht.more (fun _ e => .inl e)).trans hg2 (fun _ e => .inl (.inr e))).trans ht3 (fun _ e => .inl (.inl e))
  refine ⟨w3, hrun3, ⟨⟨n', D', hown', hm'⟩, h.good.put _ hok hself (by simp) hfil, fun g hg => ?_, ?_⟩, hT⟩
  · unfold setL at hg
    rcases List.mem_append.1 hg with hg | hg
    · obtain ⟨h1, h2⟩ := List.mem_filter.1 hg
      have h3 : g.k ≠ keyA x := by simpa using h2
      refine hT.row (h.row g h1) (fun i hi e => ?_)
      rcases e with e | e
      · exact row_kind (h.row g h1) hb i hi e
      · exact hvg g h1 h3 i hi e
    · simp at hg; subst hg
      have := ht3.row hown (fun i hi e => row_kind hown (hb2.trans hb1) i hi e)
      rw [show (T.filter (mt (keyA x)) ++ [(⟨p, x⟩ : Tn)]).length = (T.filter (mt (keyA x))).length + 1 from by simp, tF_app, tF_single]
      exact this
  · unfold setL
    refine List.pairwise_append.2 ⟨h.apart.sublist List.filter_sublist, List.pairwise_singleton _ _, fun g hg y' hy => ?_⟩
    simp at hy
    subst hy
    obtain ⟨h1, h2⟩ := List.mem_filter.1 hg
    have h3 : g.k ≠ keyA x := by simpa using h2
    intro e
    cases hi : g.v.ownBlock with
    | none =>
      rcases (h.row g h1).2 with ⟨_, hl0⟩ | ⟨g', cap, cur, hv, _⟩
      · exact (h.good.grp g h1).2 (List.eq_nil_of_length_eq_zero hl0)
      · rw [hv] at hi; simp [Value.ownBlock] at hi
    | some i =>
      rcases hnew i (e.symm.trans hi) with h4 | h4
      · exact hvg g h1 h3 i hi h4
      · have h5 := ((h.row g h1).lt i hi).2
        have h6 := ht.size
        omega

end Ou
end Go.Proofs.Ytbldoplemfjcjaa
