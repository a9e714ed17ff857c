/- What is left of a key: keep. -/
import Derived.Test.YtbldoplemfjcjaaOuE
namespace Go.Proofs.Ytbldoplemfjcjaa
open Go.RowKit
open Pl
namespace Ou

theorem kept_past {w w1 w' w2 : World} {b : Nat} {L L' : List Gr} {k : Ke} (h : Kept w1 w' b L L' k) (hb : Below w.heap.size w w1) (hk : Below w'.heap.size w' w2) : Kept w w2 b L L' k := by
  intro r n D left cnt hr hm hn hl
  obtain ⟨n', D', cnt', hr', hm', hn', hc'⟩ := h r n D left cnt (hr.kept (row := none) ⟨hb.os, hb.tape, hb.output, hb.size, fun k hk _ => hb.block k hk⟩ (by simp) (by simp)) hm hn hl
  exact ⟨n', D', cnt', hr'.kept (row := none) ⟨hk.os, hk.tape, hk.output, hk.size, fun k hk' _ => hk.block k hk'⟩ (by simp) (by simp), hm', hn', hc'⟩
theorem foot_del {gs b : Nat} {L : List Gr} {k : Ke} {i : Nat} (h : foot gs b (delL L k) i) : foot gs b L i := by
  rcases h with h | h | ⟨g, hg, e⟩
  · exact .inl h
  · exact .inr (.inl h)
  · exact .inr (.inr ⟨g, (List.mem_filter.1 hg).1, e⟩)
theorem foot_set {gs b : Nat} {L : List Gr} {k : Ke} {xs : List Tn} {v : Value} {i : Nat} (h : foot gs b (setL L k xs v) i) : foot gs b L i ∨ v.ownBlock = some i := by
  rcases h with h | h | ⟨g, hg, e⟩
  · exact .inl (.inl h)
  · exact .inl (.inr (.inl h))
  · unfold setL at hg
    rcases List.mem_append.1 hg with hg | hg
    · exact .inl (.inr (.inr ⟨g, (List.mem_filter.1 hg).1, e⟩))
    · simp at hg; subst hg; exact .inr e
theorem row_kind {w : World} {B e z n : Nat} {v : Value} {ys : List Value} (hr : w.ownsRow B e z v n ys) {b : Nat} {es : Array MapEntry} {clock : Nat} (hb : w.heap[b]? = some (.map es clock)) : ∀ i, v.ownBlock = some i → ¬ i = b := by
  intro i hi e
  subst e
  rcases hr.2 with ⟨hv, _⟩ | ⟨g', cap, cur, hv, _, hh, _⟩
  · rw [hv] at hi; simp [Value.ownBlock] at hi
  · rw [hv] at hi
    simp [Value.ownBlock] at hi
    subst hi
    rw [hh] at hb; cases hb

/-- delete, in a region that draws its order. -/
theorem step_del (w : World) {ops : Array Oper} {o : Oper} {a : Act} {K : Act → World → Prop} {Q : Exit → Act → World → Prop} {E : Prop} (hgd : o.guard = none) (m x : Operand)
    (ho : o.op = .call { callee := .builtin .delete, args := #[m, x], argTypes := #[59, 67] }) (b : Nat) (k : Ke) (hm : a.eval m = .map (some b)) (hx : a.eval x = kyV k)
    {L : List Gr} {T T' : List Tn} (h : Hold w b L T) (hk : OkK k) (hok : ∀ t ∈ T', OkA t.x) (hx' : T'.filter (mt k) = []) (ho' : ∀ l, l ≠ k → T'.filter (mt l) = T.filter (mt l))
    (hK : ∀ w', Hold w' b (delL L k) T' → Turn (fun i => i = b) w w' → Kept w w' b L (delL L k) k → K (a.put o.dst (.tuple #[])) w') :
    if Region.wanted o (yielded ops a.tmps) = true then Oper.wp Try.prog o a w K Q else E := by
  have hw : Region.wanted o (yielded ops a.tmps) = true := by simp [Region.wanted, hgd]
  rw [if_pos hw]
  obtain ⟨w', hrun, r1, r2, r3⟩ := del_run h hk hok hx' ho' o.type
  unfold Oper.wp
  simp only [execOp, ho, resolve, invoke, builtin, Sem.run_bind, Sem.run_pure, Result.andThen_ok, List.map_toArray, List.map_cons, List.map_nil, hm, hx, hrun]
  exact hK _ r1 r2 r3

set_option maxRecDepth 20000 in
set_option maxHeartbeats 2000000 in
theorem keep_any {w : World} {gs most added b : Nat} {L : List Gr} {T T' : List Tn} (h : St w gs most added b L T) {k : Ke} (hk : OkK k) {v : Value} {xs : List Tn} {n : Nat} (hN : n = xs.length) (hrow : Row w v n (tF xs)) (hx : xs = T'.filter (mt k)) (hsub : T'.Sublist T) (ho : ∀ l, l ≠ k → T'.filter (mt l) = T.filter (mt l)) (hthere : ∃ g ∈ L, g.k = k) :
    Calls Try.prog 30 #[.pointer (some ⟨gs, 0, none⟩), kyV k, v] w fun e w' => ∃ L', e = .returned (.tuple #[]) ∧ St w' gs most added b L' T' ∧ Turn (fun i => i = b) w w' ∧ (∀ i, foot gs b L' i → foot gs b L i ∨ w.heap.size ≤ i) ∧ Kept w w' b L L' k := by
  have hm2 := h.m2
  have hlen := h.len
  have hfew := good_few h.hold.good
  have hxl : n ≤ 16 := by
    have h1 : xs.length ≤ T'.length := by rw [hx]; exact List.length_filter_le _ _
    have h2 := hsub.length_le
    omega
  have hok' : ∀ t ∈ T', OkA t.x := fun t ht => h.hold.good.ok t (hsub.subset ht)
  have hb0 : Below w.heap.size w (w.alloc (.cells (kyC k) 67)) := lay (Below.refl _ _) _
  have hb := hb0.drew
  have hq := (Blk.new w (kyC k) 67).below (Below.refl _ _).drew
  have hs := h.below hb
  obtain ⟨y, c, rfl⟩ := row_slice hrow
  have e0 := hq.cell 0
  have e1 := hq.cell 1
  have e2 := hq.cell 2
  have e3 := hq.cell 3
  have e4 := hq.cell 4
  have c2 : ((w.alloc (.cells (kyC k) 67)).drew).cell? ⟨gs, 2, none⟩ = some (.map (some b)) := hs.blk.cell 2
  have HST : Hid (∀ w' L', Hold w' b L' T' → Turn (fun i => i = b) w w' → St w' gs most added b L' T') := fun w' L' hh ht => by
    obtain ⟨es, clock, hbm⟩ := h.hold.bmap
    refine ⟨ht.blk h.blk (fun e => ?_), h.m1, h.m2, Nat.le_trans hsub.length_le h.len, hh, h.rise.sub hsub, fun t ht => h.lt t (hsub.subset ht)⟩
    subst e
    have h' : w.heap[gs]? = some (.cells _ _ (0, 0)) := h.blk
    rw [h'] at hbm; cases hbm
  have HK : Hid (OkK k) := hk
  have HH := hs.hold
  by_cases hz : n = 0
  · subst hz
    have hxe : T'.filter (mt k) = [] := by rw [← hx]; exact List.eq_nil_of_length_eq_zero hN.symm
    have HX : Hid (T'.filter (mt k) = []) := hxe
    have HOK : Hid (∀ t ∈ T', OkA t.x) := hok'
    have HO : Hid (∀ l, l ≠ k → T'.filter (mt l) = T.filter (mt l)) := ho
    have HB : Hid (Below w.heap.size w (w.alloc (.cells (kyC k) 67)).drew) := hb
    clear hN hx hxe hok' ho hrow hsub hthere hq hs hb hb0 hk h hfew hlen hm2 hxl
    unfold kyC at e0 e1 e2 e3 e4 HB HH c2
    simp only [List.getElem?_toArray, List.getElem?_cons_succ, List.getElem?_cons_zero] at e0 e1 e2 e3 e4
    unfold kyV kyC
    go_enter Try.func30, Try.ntmps30
    go_wp2
    go_region_law ((refine step_del _ (by rfl) (.tmp 12) (.tmp 13) (by rfl) b k (by rfl) (by rfl) HH HK.out HOK.out HX.out HO.out ?_; intro w4 h4 t4 k4))
    all_goals (go_wp2; refine bodyPost_ret (results_none rfl _ _ _) rfl ?_)
    all_goals exact ⟨_, rfl, HST.out _ _ h4 ((Turn.of_below HB.out).trans t4 (fun _ e => .inl e)), (Turn.of_below HB.out).trans t4 (fun _ e => .inl e), fun i hi => .inl (foot_del hi), kept_past k4 HB.out (Below.refl _ _)⟩
  · have hne : xs ≠ [] := fun e => hz (by rw [hN, e]; rfl)
    have hn0 : ((n : Int) == 0) = false := by rw [beq_eq_false_iff_ne]; omega
    have hkb : (w.alloc (.cells (kyC k) 67)).drew.heap.size = w.heap.size + 1 := by simp
    have HC : Hid (∀ w2 v', (w2.ownsRow (w.heap.size + 1) 73 9 v' n (tF xs)) → Below (w.heap.size + 1) (w.alloc (.cells (kyC k) 67)).drew w2 → ∃ w', (Instr.mapUpdate 59 (.map (some b)) (kyV k) v').run Try.prog w2 = .ok () w' ∧ (w'.cell? ⟨gs, 2, none⟩ = some (.map (some b)) ∧ w'.cell? ⟨w.heap.size, 0, none⟩ = some (.int .i64 k.1) ∧ w'.cell? ⟨w.heap.size, 1, none⟩ = some (.int .i64 k.2.1) ∧ w'.cell? ⟨w.heap.size, 2, none⟩ = some (.string k.2.2.1) ∧ w'.cell? ⟨w.heap.size, 3, none⟩ = some (.int .i64 k.2.2.2.1) ∧ w'.cell? ⟨w.heap.size, 4, none⟩ = some (.int .i64 k.2.2.2.2)) ∧ ∃ L', St w' gs most added b L' T' ∧ Turn (fun i => i = b) w w' ∧ (∀ i, foot gs b L' i → foot gs b L i ∨ w.heap.size ≤ i) ∧ Kept w w' b L L' k) := by
      intro w2 v' hown hb2
      have hs2 := (h.below hb).below (by rw [hkb]; exact hb2)
      have hb3 : Below w.heap.size w w2 := next hb (by rw [hkb]; exact hb2)
      obtain ⟨w', hrun, hh, ht, hkept⟩ := put_run hs2.hold (by omega) hk hown hN hok' hx hne ho (fun g hg _ e => by
        have h1 := h.footlt
        cases e2 : v'.ownBlock with
        | none =>
          rw [e2] at e
          rcases (h.hold.row g hg).2 with ⟨hv, hl0⟩ | ⟨g', cap, cur, hv, _⟩
          · exact (h.hold.good.grp g hg).2 (List.eq_nil_of_length_eq_zero hl0)
          · rw [hv] at e; simp [Value.ownBlock] at e
        | some i =>
          rw [e2] at e
          have h2 := h1 i (.inr (.inr ⟨g, hg, e⟩))
          have h3 := (hown.lt i e2).1
          omega)
      have htt : Turn (fun i => i = b) w w' := (Turn.of_below hb3).trans ht (fun _ e => .inl e)
      have hst := HST.out _ _ hh htt
      have q2 := ht.blk (hq.below (w' := w2) (by rw [hkb]; exact hb2)) (fun e => by have := h.hold.blt; omega)
      refine ⟨w', hrun, ⟨hst.blk.cell 2, q2.cell 0, q2.cell 1, q2.cell 2, q2.cell 3, q2.cell 4⟩, _, hst, htt, fun i hi => ?_, kept_past (hkept hthere) hb3 (Below.refl _ _)⟩
      rcases foot_set hi with hi | hi
      · exact .inl hi
      · have := (hown.lt i hi).1
        exact .inr (by omega)
    have hrow2 := hrow.below hb
    have HSS : Hid (∀ w2, Below (w.heap.size + 1) (w.alloc (.cells (kyC k) 67)).drew w2 → w2.cell? ⟨gs, 2, none⟩ = some (.map (some b)) ∧ w2.cell? ⟨w.heap.size, 0, none⟩ = some (.int .i64 k.1) ∧ w2.cell? ⟨w.heap.size, 1, none⟩ = some (.int .i64 k.2.1) ∧ w2.cell? ⟨w.heap.size, 2, none⟩ = some (.string k.2.2.1) ∧ w2.cell? ⟨w.heap.size, 3, none⟩ = some (.int .i64 k.2.2.2.1) ∧ w2.cell? ⟨w.heap.size, 4, none⟩ = some (.int .i64 k.2.2.2.2)) := fun w2 hb2 => by
      have hb3 : Below (w.alloc (.cells (kyC k) 67)).drew.heap.size (w.alloc (.cells (kyC k) 67)).drew w2 := by rw [hkb]; exact hb2
      have q2 := hq.below hb3
      exact ⟨((h.below hb).below hb3).blk.cell 2, q2.cell 0, q2.cell 1, q2.cell 2, q2.cell 3, q2.cell 4⟩
    have HN : Hid (n = xs.length) := hN
    have hcl : ∀ u, u.heap.size = w.heap.size + 1 → Row u (.slice y n c) n (tF xs) → Calls Try.prog 38 #[.slice y n c] u fun e w' => ∃ v', e = .returned v' ∧ w'.ownsRow (w.heap.size + 1) 73 9 v' n (tF xs) ∧ Below (w.heap.size + 1) u w' := fun u hu hr => by
      have := cloneT_any (.slice y n c) xs n u HN.out hr (by omega) (by omega)
      rw [hu] at this
      exact this
    have HCL := hcl _ hkb hrow2
    clear hN hx hok' ho hrow hsub hthere hs hb hb0 hk h hfew hlen hm2 hne HST hcl hrow2 HH HK
    unfold kyV kyC at HC
    unfold kyC at HSS
    unfold kyC at e0 e1 e2 e3 e4 c2 hq HCL hkb
    simp only [List.getElem?_toArray, List.getElem?_cons_succ, List.getElem?_cons_zero] at e0 e1 e2 e3 e4
    unfold kyV kyC
    go_enter Try.func30, Try.ntmps30
    go_wp2
    go_region_held_law (fun u => u.cell? ⟨gs, 2, none⟩ = some (.map (some b)) ∧ u.cell? ⟨w.heap.size, 0, none⟩ = some (.int .i64 k.1) ∧ u.cell? ⟨w.heap.size, 1, none⟩ = some (.int .i64 k.2.1) ∧ u.cell? ⟨w.heap.size, 2, none⟩ = some (.string k.2.2.1) ∧ u.cell? ⟨w.heap.size, 3, none⟩ = some (.int .i64 k.2.2.2.1) ∧ u.cell? ⟨w.heap.size, 4, none⟩ = some (.int .i64 k.2.2.2.2)) (first | (exact ⟨c2, e0, e1, e2, e3, e4⟩) | (exact HS2) | (exact HS3)) ((go_at_call 38; go_must (refine HCL.mono ?_); rintro e w2 ⟨v', rfl, own2, bel2⟩; have HS2 := HSS.out w2 bel2; obtain ⟨w3, hrun, HS3, HL⟩ := HC.out w2 v' own2 bel2; clear own2 bel2))
    all_goals (go_wp2; go_end0)
    all_goals (obtain ⟨L', h1, h2, h3, h4⟩ := HL; exact ⟨L', rfl, h1, h2, h3, h4⟩)

end Ou
end Go.Proofs.Ytbldoplemfjcjaa
