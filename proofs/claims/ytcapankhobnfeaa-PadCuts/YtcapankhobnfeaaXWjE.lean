/- What the document's MsgMay gives. -/
import Derived.Test.YtcapankhobnfeaaXWjD
namespace Go.Proofs.Ytcapankhobnfeaa
open Go.RowKit
open Pl

/-- The three parts of records. -/
def ptL (an ns ar : List Rc) : Nat → List Rc
  | 0 => an
  | 1 => ns
  | _ => ar
def ptV (v1 v2 v3 : Value) : Nat → Value
  | 0 => v1
  | 1 => v2
  | _ => v3
theorem pt_row {w : World} {v1 v2 v3 : Value} {an ns ar : List Rc} (h1 : RRow w v1 an) (h2 : RRow w v2 ns) (h3 : RRow w v3 ar) (k : Nat) : RRow w (ptV v1 v2 v3 k) (ptL an ns ar k) := by
  match k with
  | 0 => exact h1
  | 1 => exact h2
  | k + 2 => exact h3
theorem pt_cell {w : World} {g : Nat} {v1 v2 v3 : Value} {t : TypeId} (h : Blk w g #[v1, v2, v3] t) {k : Nat} (hk : k < 3) : w.cell? ⟨g, k, none⟩ = some (ptV v1 v2 v3 k) := by
  rw [h.cell k]
  match k, hk with
  | 0, _ => rfl
  | 1, _ => rfl
  | 2, _ => rfl
/-- Where it may not be. -/
theorem mayM_q {m : Ms} (h : few mayQ m.qs = false) : mayM m = false := by unfold mayM; rw [h]; simp
theorem mayM_r {m : Ms} {k : Nat} (h : few mayR (ptL m.an m.ns m.ar k) = false) : mayM m = false := by
  unfold mayM
  match k, h with
  | 0, h => have : few mayR m.an = false := h; rw [this]; simp
  | 1, h => have : few mayR m.ns = false := h; rw [this]; simp
  | k + 2, h => have : few mayR m.ar = false := h; rw [this]; simp
theorem few_no {α : Type} {f : α → Bool} {xs : List α} (h : 64 < xs.length) : few f xs = false := by
  unfold few
  have : decide (xs.length ≤ 64) = false := by simp; omega
  rw [this, Bool.false_and]
theorem few_all {α : Type} {f : α → Bool} {xs : List α} (h : ¬ 64 < xs.length) (h1 : xs.all f = true) : few f xs = true := by
  unfold few
  rw [h1]
  simp; omega
theorem mayM_yes {m : Ms} (hh : mayHd m.h = true) (h0 : few mayQ m.qs = true) (h : ∀ k, k < 3 → few mayR (ptL m.an m.ns m.ar k) = true) : mayM m = true := by
  unfold mayM
  have h1 : few mayR m.an = true := h 0 (by decide)
  have h2 : few mayR m.ns = true := h 1 (by decide)
  have h3 : few mayR m.ar = true := h 2 (by decide)
  rw [hh, h0, h1, h2, h3]; rfl

/-- What is held behind the header's look: the message's block; all that is old. -/
def HM (w wr : World) (C : Array Value) : Prop := Below w.heap.size w wr ∧ Blk wr w.heap.size C 29
theorem HM.below {w wr wr' : World} {C : Array Value} (h : HM w wr C) (hb : Below wr.heap.size wr wr') : HM w wr' C := ⟨next h.1 hb, h.2.below hb⟩
/-- .. and the row of parts. -/
def HP3 (w wr : World) (gp : Nat) (v1 v2 v3 : Value) : Prop := Below w.heap.size w wr ∧ Blk wr gp #[v1, v2, v3] 27
theorem HP3.below {w wr wr' : World} {gp : Nat} {v1 v2 v3 : Value} (h : HP3 w wr gp v1 v2 v3) (hb : Below wr.heap.size wr wr') : HP3 w wr' gp v1 v2 v3 := ⟨next h.1 hb, h.2.below hb⟩

theorem mayQ_as (q : Qn) : mayQ q = (isName q.n.data.toList && inB 65535 q.t && !(q.t == 0) && inB 65535 q.c) := by
  unfold mayQ inB
  rw [Bool.eq_iff_iff]
  simp only [Bool.and_eq_true, decide_eq_true_eq, Bool.not_eq_true', beq_eq_false_iff_ne, ne_eq]
  constructor
  · rintro ⟨⟨a, b⟩, c⟩; exact ⟨⟨⟨a, by omega⟩, by omega⟩, c⟩
  · rintro ⟨⟨⟨a, b⟩, c⟩, d⟩; exact ⟨⟨a, by omega⟩, d⟩

set_option maxRecDepth 20000 in
set_option maxHeartbeats 4000000 in
theorem msgMay_any (m : Ms) (v0 v1 v2 v3 : Value) (w : World) (h0 : QRow w v0 m.qs) (h1 : RRow w v1 m.an) (h2 : RRow w v2 m.ns) (h3 : RRow w v3 m.ar) :
    Calls Try.prog 49 #[.agg (msgC m.h v0 v1 v2 v3)] w fun e w' => e = .returned (.bool (mayM m)) ∧ Below w.heap.size w w' := by
  obtain ⟨x0, c0, rfl⟩ := row_slice h0.1
  obtain ⟨x1, c1, rfl⟩ := row_slice h1.1
  obtain ⟨x2, c2, rfl⟩ := row_slice h2.1
  obtain ⟨x3, c3, rfl⟩ := row_slice h3.1
  obtain ⟨R, hR⟩ : ∃ R, R = mayM m := ⟨_, rfl⟩
  rw [← hR]
  have HR : Hid (R = mayM m) := hR
  have hb : Below w.heap.size w w := Below.refl _ _
  have H0 : Hid (QRow w (.slice x0 m.qs.length c0) m.qs) := h0
  have H1 : Hid (RRow w (.slice x1 m.an.length c1) m.an) := h1
  have H2 : Hid (RRow w (.slice x2 m.ns.length c2) m.ns) := h2
  have H3 : Hid (RRow w (.slice x3 m.ar.length c3) m.ar) := h3
  have q0 := h0.2.1
  have q1 := h1.2.1
  have q2 := h2.2.1
  have q3 := h3.2.1
  unfold maxLen at q0 q1 q2 q3
  have hput := fun u => refPut_any m.h.id m.h.qr m.h.op m.h.aa m.h.tc m.h.rd m.h.ra m.h.z m.h.rc 0 0 0 0 u
  obtain ⟨b1, hb1⟩ : ∃ b, mayH m.h.id m.h.op m.h.z m.h.rc 0 0 0 0 = b := ⟨_, rfl⟩
  have HB1 : Hid (mayHd m.h = b1) := hb1
  unfold putT at hput
  simp only [hb1] at hput
  have KB := Blk.new w (msgC m.h (.slice x0 m.qs.length c0) (.slice x1 m.an.length c1) (.slice x2 m.ns.length c2) (.slice x3 m.ar.length c3)) 29
  clear h0 h1 h2 h3 hR hb1
  have E0 : Hid (few mayQ m.qs = false → R = false) := fun h => by rw [HR.out]; exact mayM_q h
  have ER : Hid (∀ k, few mayR (ptL m.an m.ns m.ar k) = false → R = false) := fun k h => by rw [HR.out]; exact mayM_r h
  have EY : Hid (mayHd m.h = true → few mayQ m.qs = true → (∀ k, k < 3 → few mayR (ptL m.an m.ns m.ar k) = true) → R = true) := fun a b c => by rw [HR.out]; exact mayM_yes a b c
  obtain ⟨hd, qs, an, ns, ar⟩ := m
  obtain ⟨id, qr, op, aa, tc, rd, ra, z, rc⟩ := hd
  unfold msgC at KB ⊢
  unfold headV cntV at hput
  simp only at hput KB HR H0 H1 H2 H3 HB1 E0 ER EY q0 q1 q2 q3 ⊢
  cases b1 with
  | false =>
    simp only [Bool.false_eq_true, if_false] at hput
    have HE : Hid (R = false) := by unfold Hid; rw [HR.out]; unfold mayM; rw [HB1.out]; rfl
    go_enter Try.func49, Try.ntmps49
    go_wp2_with (go_at_call 50; go_must (refine (hput _).mono ?_); rintro e w1 ⟨rfl, b1⟩; replace hb := next (lay hb _) b1; clear b1)
    go_ret
    exact ⟨ret_bool HE.out.symm, hb⟩
  | true =>
    simp only [if_true] at hput
    have hways : ((64 : Int) < (qs.length : Int)) ∨ (decide ((64 : Int) < (qs.length : Int)) = false ∧ (64 : Int) < (an.length : Int)) ∨ (decide ((64 : Int) < (qs.length : Int)) = false ∧ decide ((64 : Int) < (an.length : Int)) = false ∧ (64 : Int) < (ns.length : Int)) ∨ (decide ((64 : Int) < (qs.length : Int)) = false ∧ decide ((64 : Int) < (an.length : Int)) = false ∧ decide ((64 : Int) < (ns.length : Int)) = false ∧ (64 : Int) < (ar.length : Int)) ∨ (decide ((64 : Int) < (qs.length : Int)) = false ∧ decide ((64 : Int) < (an.length : Int)) = false ∧ decide ((64 : Int) < (ns.length : Int)) = false ∧ decide ((64 : Int) < (ar.length : Int)) = false) := by
      simp only [decide_eq_false_iff_not]; omega
    have HL : Hid (((64 : Int) < (qs.length : Int)) ∨ ((64 : Int) < (an.length : Int)) ∨ ((64 : Int) < (ns.length : Int)) ∨ ((64 : Int) < (ar.length : Int)) → R = false) := by
      intro h
      rcases h with h | h | h | h
      · exact E0.out (few_no (by omega))
      · exact ER.out 0 (few_no (by show 64 < an.length; omega))
      · exact ER.out 1 (few_no (by show 64 < ns.length; omega))
      · exact ER.out 2 (few_no (by show 64 < ar.length; omega))
    rcases hways with g0 | ⟨g0, g1⟩ | ⟨g0, g1, g2⟩ | ⟨g0, g1, g2, g3⟩ | ⟨g0, g1, g2, g3⟩
    · have HE : Hid (R = false) := HL.out (.inl g0)
      go_enter Try.func49, Try.ntmps49
      go_wp2_with (go_at_call 50; go_must (refine (hput _).mono ?_); rintro e w1 ⟨rfl, b1⟩; replace hb := next (lay hb _) b1; replace KB := KB.below b1; have f9 := KB.cell 9; clear b1)
      go_ret
      exact ⟨ret_bool HE.out.symm, hb⟩
    · have HE : Hid (R = false) := HL.out (.inr (.inl g1))
      go_enter Try.func49, Try.ntmps49
      go_wp2_with (go_at_call 50; go_must (refine (hput _).mono ?_); rintro e w1 ⟨rfl, b1⟩; replace hb := next (lay hb _) b1; replace KB := KB.below b1; have f9 := KB.cell 9; have f10 := KB.cell 10; clear b1)
      go_ret
      exact ⟨ret_bool HE.out.symm, hb⟩
    · have HE : Hid (R = false) := HL.out (.inr (.inr (.inl g2)))
      go_enter Try.func49, Try.ntmps49
      go_wp2_with (go_at_call 50; go_must (refine (hput _).mono ?_); rintro e w1 ⟨rfl, b1⟩; replace hb := next (lay hb _) b1; replace KB := KB.below b1; have f9 := KB.cell 9; have f10 := KB.cell 10; have f11 := KB.cell 11; clear b1)
      go_ret
      exact ⟨ret_bool HE.out.symm, hb⟩
    · have HE : Hid (R = false) := HL.out (.inr (.inr (.inr g3)))
      go_enter Try.func49, Try.ntmps49
      go_wp2_with (go_at_call 50; go_must (refine (hput _).mono ?_); rintro e w1 ⟨rfl, b1⟩; replace hb := next (lay hb _) b1; replace KB := KB.below b1; have f9 := KB.cell 9; have f10 := KB.cell 10; have f11 := KB.cell 11; have f12 := KB.cell 12; clear b1)
      go_ret
      exact ⟨ret_bool HE.out.symm, hb⟩
    · have HL4 : Hid (¬ 64 < qs.length ∧ ∀ k, ¬ 64 < (ptL an ns ar k).length) := by
        simp only [decide_eq_false_iff_not] at g0 g1 g2 g3
        refine ⟨by omega, fun k => ?_⟩
        match k with
        | 0 => show ¬ 64 < an.length; omega
        | 1 => show ¬ 64 < ns.length; omega
        | k + 2 => show ¬ 64 < ar.length; omega
      have HV : Hid (∀ k, RRow w (ptV (.slice x1 an.length c1) (.slice x2 ns.length c2) (.slice x3 ar.length c3) k) (ptL an ns ar k)) := fun k => pt_row H1.out H2.out H3.out k
      clear HL H1 H2 H3 HR
      go_enter Try.func49, Try.ntmps49
      go_wp2_with (go_at_call 50; go_must (refine (hput _).mono ?_); rintro e w1 ⟨rfl, b1⟩; replace hb := next (lay hb _) b1; replace KB := KB.below b1; have f9 := KB.cell 9; have f10 := KB.cell 10; have f11 := KB.cell 11; have f12 := KB.cell 12; clear b1)
      have HH : Hid (HM w w1 #[.int .i64 id, .bool qr, .int .i64 op, .bool aa, .bool tc, .bool rd, .bool ra, .int .i64 z, .int .i64 rc, .slice x0 qs.length c0, .slice x1 an.length c1, .slice x2 ns.length c2, .slice x3 ar.length c3]) := ⟨hb, KB⟩
      clear KB hb f9 f10 f11 f12 g0 g1 g2 g3
      go_loopw [5] (fun i wr => ∃ k : Nat, k ≤ qs.length ∧ i = .int .i64 (k : Int) ∧ Hid ((qs.take k).all mayQ = true) ∧ Hid (HM w wr #[.int .i64 id, .bool qr, .int .i64 op, .bool aa, .bool tc, .bool rd, .bool ra, .int .i64 z, .int .i64 rc, .slice x0 qs.length c0, .slice x1 an.length c1, .slice x2 ns.length c2, .slice x3 ar.length c3])) (fun i _ => qs.length - (intOf i).toNat)
      case atStart => exact ⟨0, Nat.zero_le _, rfl, by unfold Hid; simp, HH⟩
      case round =>
        clear HH
        obtain ⟨k, hk, rfl, HK, HH⟩ := hrel
        have f9 := HH.out.2.cell 9
        have f10 := HH.out.2.cell 10
        have f11 := HH.out.2.cell 11
        have f12 := HH.out.2.cell 12
        by_cases hkn : k < qs.length
        · obtain ⟨g, o, cap, hx, hc⟩ := row_at (H0.out.below HH.out.1).1 (by omega)
          simp only [Value.slice.injEq] at hx
          obtain ⟨rfl, -, rfl⟩ := hx
          obtain ⟨d0, d1, d2⟩ := q_cells hc hkn
          have hsz := H0.out.2.2 _ (List.getElem_mem hkn)
          obtain ⟨q, hq⟩ : ∃ q, q = qs[k] := ⟨_, rfl⟩
          simp only [← hq] at d0 d1 d2 hsz
          have HQ : Hid (q = qs[k]) := hq
          obtain ⟨qn, qt, qc⟩ := q
          simp only at d0 d1 d2 hsz
          obtain ⟨b1, hb1⟩ : ∃ b, isName qn.data.toList = b := ⟨_, rfl⟩
          obtain ⟨b2, hb2⟩ : ∃ b, inB 65535 qt = b := ⟨_, rfl⟩
          obtain ⟨b3, hb3⟩ : ∃ b, (qt == 0) = b := ⟨_, rfl⟩
          obtain ⟨b4, hb4⟩ : ∃ b, inB 65535 qc = b := ⟨_, rfl⟩
          have HB : Hid (mayQ qs[k] = (b1 && b2 && !b3 && b4)) := by unfold Hid; rw [← HQ.out, mayQ_as]; simp only; rw [hb1, hb2, hb3, hb4]
          have k1 := fun u => refMay_at qn b1 u hsz hb1
          have k2 := fun u => short_as qt b2 u hb2
          have k4 := fun u => short_as qc b4 u hb4
          have HNO : Hid (mayQ qs[k] = false → R = false) := fun h => E0.out (all_no hkn h)
          have KQ := Blk.new wr #[.string qn, .int .i64 qt, .int .i64 qc] 46
          have t1 : True := trivial
          clear hc hq hb1 hb2 hb4 hsz
          have hw : b1 = false ∨ (b1 = true ∧ b2 = false) ∨ (b1 = true ∧ b2 = true ∧ b3 = true) ∨ (b1 = true ∧ b2 = true ∧ b3 = false ∧ b4 = false) ∨ (b1 = true ∧ b2 = true ∧ b3 = false ∧ b4 = true) := by
            cases b1 <;> cases b2 <;> cases b3 <;> cases b4 <;> simp
          rcases hw with rfl | ⟨rfl, rfl⟩ | ⟨rfl, rfl, rfl⟩ | ⟨rfl, rfl, rfl, rfl⟩ | ⟨rfl, rfl, rfl, rfl⟩
          · have HF : Hid (R = false) := HNO.out (by rw [HB.out]; simp)
            go_wp2_with (first
              | (go_at_call 24; go_must (refine (k1 _).mono ?_); rintro e w2 ⟨rfl, bb⟩; have HH2 := (HH.out.below (lay (Below.refl _ _) _)).below bb; have HHN : Hid _ := HH2; replace KQ := KQ.below bb; have e1 : w2.cell? ⟨wr.heap.size, 1, none⟩ = some (.int .i64 qt) := KQ.cell 1; have e2 : w2.cell? ⟨wr.heap.size, 2, none⟩ = some (.int .i64 qc) := KQ.cell 2; clear bb HH2)
              | (go_at_call 27; have _t := t1; go_must (refine (k2 _).mono ?_); rintro e w' ⟨rfl, hw⟩; obtain rfl := hw.symm; clear t1 _t)
              | (go_at_call 27; go_must (refine (k4 _).mono ?_); rintro e w' ⟨rfl, hw⟩; obtain rfl := hw.symm))
            go_ret
            exact ⟨ret_bool HF.out.symm, HHN.out.1⟩
          · have HF : Hid (R = false) := HNO.out (by rw [HB.out]; simp)
            go_wp2_with (first
              | (go_at_call 24; go_must (refine (k1 _).mono ?_); rintro e w2 ⟨rfl, bb⟩; have HH2 := (HH.out.below (lay (Below.refl _ _) _)).below bb; have HHN : Hid _ := HH2; replace KQ := KQ.below bb; have e1 : w2.cell? ⟨wr.heap.size, 1, none⟩ = some (.int .i64 qt) := KQ.cell 1; have e2 : w2.cell? ⟨wr.heap.size, 2, none⟩ = some (.int .i64 qc) := KQ.cell 2; clear bb HH2)
              | (go_at_call 27; have _t := t1; go_must (refine (k2 _).mono ?_); rintro e w' ⟨rfl, hw⟩; obtain rfl := hw.symm; clear t1 _t)
              | (go_at_call 27; go_must (refine (k4 _).mono ?_); rintro e w' ⟨rfl, hw⟩; obtain rfl := hw.symm))
            go_ret
            exact ⟨ret_bool HF.out.symm, HHN.out.1⟩
          · have HF : Hid (R = false) := HNO.out (by rw [HB.out]; simp)
            go_wp2_with (first
              | (go_at_call 24; go_must (refine (k1 _).mono ?_); rintro e w2 ⟨rfl, bb⟩; have HH2 := (HH.out.below (lay (Below.refl _ _) _)).below bb; have HHN : Hid _ := HH2; replace KQ := KQ.below bb; have e1 : w2.cell? ⟨wr.heap.size, 1, none⟩ = some (.int .i64 qt) := KQ.cell 1; have e2 : w2.cell? ⟨wr.heap.size, 2, none⟩ = some (.int .i64 qc) := KQ.cell 2; clear bb HH2)
              | (go_at_call 27; have _t := t1; go_must (refine (k2 _).mono ?_); rintro e w' ⟨rfl, hw⟩; obtain rfl := hw.symm; clear t1 _t)
              | (go_at_call 27; go_must (refine (k4 _).mono ?_); rintro e w' ⟨rfl, hw⟩; obtain rfl := hw.symm))
            go_ret
            exact ⟨ret_bool HF.out.symm, HHN.out.1⟩
          · have HF : Hid (R = false) := HNO.out (by rw [HB.out]; simp)
            go_wp2_with (first
              | (go_at_call 24; go_must (refine (k1 _).mono ?_); rintro e w2 ⟨rfl, bb⟩; have HH2 := (HH.out.below (lay (Below.refl _ _) _)).below bb; have HHN : Hid _ := HH2; replace KQ := KQ.below bb; have e1 : w2.cell? ⟨wr.heap.size, 1, none⟩ = some (.int .i64 qt) := KQ.cell 1; have e2 : w2.cell? ⟨wr.heap.size, 2, none⟩ = some (.int .i64 qc) := KQ.cell 2; clear bb HH2)
              | (go_at_call 27; have _t := t1; go_must (refine (k2 _).mono ?_); rintro e w' ⟨rfl, hw⟩; obtain rfl := hw.symm; clear t1 _t)
              | (go_at_call 27; go_must (refine (k4 _).mono ?_); rintro e w' ⟨rfl, hw⟩; obtain rfl := hw.symm))
            go_ret
            exact ⟨ret_bool HF.out.symm, HHN.out.1⟩
          · have HK2 : Hid ((qs.take (k + 1)).all mayQ = true) := all_take hkn HK.out (by rw [HB.out]; simp)
            go_wp2_with (first
              | (go_at_call 24; go_must (refine (k1 _).mono ?_); rintro e w2 ⟨rfl, bb⟩; have HH2 := (HH.out.below (lay (Below.refl _ _) _)).below bb; have HHN : Hid _ := HH2; replace KQ := KQ.below bb; have e1 : w2.cell? ⟨wr.heap.size, 1, none⟩ = some (.int .i64 qt) := KQ.cell 1; have e2 : w2.cell? ⟨wr.heap.size, 2, none⟩ = some (.int .i64 qc) := KQ.cell 2; clear bb HH2)
              | (go_at_call 27; have _t := t1; go_must (refine (k2 _).mono ?_); rintro e w' ⟨rfl, hw⟩; obtain rfl := hw.symm; clear t1 _t)
              | (go_at_call 27; go_must (refine (k4 _).mono ?_); rintro e w' ⟨rfl, hw⟩; obtain rfl := hw.symm))
            go_roundw
            case rel => exact ⟨k + 1, by omega, by go_num, HK2, HHN⟩
            case measure => simp [intOf]; omega
        · have hkn' : decide (k < qs.length) = false := by simpa using hkn
          have HFQ : Hid (few mayQ qs = true) := by
            have h1 := HK.out
            rw [List.take_of_length_le (by omega)] at h1
            exact few_all HL4.out.1 h1
          go_wp2
          have HP : Hid (HP3 w (wr.alloc (.cells #[.slice x1 an.length c1, .slice x2 ns.length c2, .slice x3 ar.length c3] 27)) wr.heap.size (.slice x1 an.length c1) (.slice x2 ns.length c2) (.slice x3 ar.length c3)) := ⟨lay HH.out.1 _, Blk.new wr _ _⟩
          obtain ⟨gp, hgp⟩ : ∃ gp, wr.heap.size = gp := ⟨_, rfl⟩
          rw [hgp] at HP ⊢
          clear hgp HH HK f9 f10 f11 f12
          go_loopw [8] (fun i wr => ∃ k : Nat, k ≤ 3 ∧ i = .int .i64 (k : Int) ∧ Hid (∀ j, j < k → few mayR (ptL an ns ar j) = true) ∧ Hid (HP3 w wr gp (.slice x1 an.length c1) (.slice x2 ns.length c2) (.slice x3 ar.length c3))) (fun i _ => 3 - (intOf i).toNat)
          case atStart => exact ⟨0, by omega, rfl, fun j hj => by omega, HP⟩
          case round =>
            clear HP
            obtain ⟨p, hp, rfl, HK, HP⟩ := hrel
            by_cases hp3 : p < 3
            · have hp3' : (p : Int) < 3 := by omega
              have hcell := pt_cell HP.out.2 hp3
              have hrow := HV.out p
              obtain ⟨y, cy, hy⟩ := row_slice hrow.1
              obtain ⟨rs, hrs⟩ : ∃ rs, ptL an ns ar p = rs := ⟨_, rfl⟩
              obtain ⟨n, hn⟩ : ∃ n, n = (ptL an ns ar p).length := ⟨_, rfl⟩
              rw [← hn] at hy
              rw [hy] at hcell hrow
              have HROW : Hid (RRow w (.slice y n cy) (ptL an ns ar p)) := hrow
              have HN : Hid (n = (ptL an ns ar p).length) := hn
              have hmax := hrow.2.1
              rw [← hn] at hmax
              unfold maxLen at hmax
              have HNO : Hid (few mayR (ptL an ns ar p) = false → R = false) := ER.out p
              clear hrow hn hy hrs
              go_wp2
              go_loopw [9] (fun i wr => ∃ j : Nat, j ≤ n ∧ i = .int .i64 (j : Int) ∧ Hid (((ptL an ns ar p).take j).all mayR = true) ∧ Hid (HP3 w wr gp (.slice x1 an.length c1) (.slice x2 ns.length c2) (.slice x3 ar.length c3)) ∧ wr.cell? ⟨gp, p, none⟩ = some (.slice y n cy)) (fun i _ => n - (intOf i).toNat)
              case atStart => exact ⟨0, Nat.zero_le _, rfl, by unfold Hid; simp, HP, hcell⟩
              case round =>
                clear HP hcell
                obtain ⟨j, hj, rfl, HJ, HP, hcell⟩ := hrel
                by_cases hjn : j < n
                · have hjm : j < (ptL an ns ar p).length := by have := HN.out; omega
                  obtain ⟨g, o, cap, hx, hc⟩ := row_at (HROW.out.below HP.out.1).1 (by omega)
                  simp only [Value.slice.injEq] at hx
                  obtain ⟨rfl, -, rfl⟩ := hx
                  obtain ⟨d0, d1, d2, d3, d4⟩ := r_cells hc hjm
                  have hcall := fun u => rrMay_any (ptL an ns ar p)[j] u (HROW.out.2.2 _ (List.getElem_mem hjm)).1 (HROW.out.2.2 _ (List.getElem_mem hjm)).2
                  obtain ⟨q, hq⟩ : ∃ q, q = (ptL an ns ar p)[j] := ⟨_, rfl⟩
                  simp only [← hq] at d0 d1 d2 d3 d4 hcall
                  obtain ⟨b, hbq⟩ : ∃ b, mayR q = b := ⟨_, rfl⟩
                  rw [hbq] at hcall
                  have HB : Hid (mayR (ptL an ns ar p)[j] = b) := by unfold Hid; rw [← hq]; exact hbq
                  obtain ⟨qn, qt, qc, ql, qd⟩ := q
                  simp only at d0 d1 d2 d3 d4 hcall
                  clear hc hq hbq
                  cases b with
                  | false =>
                    have HF : Hid (R = false) := HNO.out (all_no hjm HB.out)
                    go_wp2_with (go_at_call 71; go_must (refine (hcall _).mono ?_); rintro e w2 ⟨rfl, bb⟩; have HP2 : Hid _ := HP.out.below bb; have hcell2 : w2.cell? ⟨gp, p, none⟩ = some (.slice (some ⟨g, o, none⟩) n cy) := (by rw [bb.cell (World.block_lt_of_cell? _ _ hcell)]; exact hcell); clear bb)
                    go_ret
                    exact ⟨ret_bool HF.out.symm, HP2.out.1⟩
                  | true =>
                    have HK2 : Hid (((ptL an ns ar p).take (j + 1)).all mayR = true) := all_take hjm HJ.out HB.out
                    go_wp2_with (go_at_call 71; go_must (refine (hcall _).mono ?_); rintro e w2 ⟨rfl, bb⟩; have HP2 : Hid _ := HP.out.below bb; have hcell2 : w2.cell? ⟨gp, p, none⟩ = some (.slice (some ⟨g, o, none⟩) n cy) := (by rw [bb.cell (World.block_lt_of_cell? _ _ hcell)]; exact hcell); clear bb)
                    go_roundw
                    case rel => exact ⟨j + 1, by omega, by go_num, HK2, HP2, hcell2⟩
                    case measure => simp [intOf]; omega
                · have hjn' : decide (j < n) = false := by simpa using hjn
                  have HF : Hid (∀ i, i < p + 1 → few mayR (ptL an ns ar i) = true) := fun i hi => by
                    by_cases h : i < p
                    · exact HK.out i h
                    · have h1 := HJ.out
                      rw [List.take_of_length_le (by have := HN.out; omega)] at h1
                      have e : i = p := by omega
                      subst e
                      exact few_all (HL4.out.2 i) h1
                  go_wp2
                  go_roundw
                  case rel => exact ⟨p + 1, by omega, by go_num, HF, HP⟩
                  case measure => simp [intOf]; omega
            · have hp3' : decide ((p : Int) < 3) = false := by simp; omega
              have HT : Hid (R = true) := EY.out HB1.out HFQ.out (fun k hk => HK.out k (by omega))
              go_wp2
              go_ret
              exact ⟨ret_bool HT.out.symm, HP.out.1⟩

end Go.Proofs.Ytcapankhobnfeaa
