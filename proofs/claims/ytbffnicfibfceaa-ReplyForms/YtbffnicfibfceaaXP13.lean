/- What the document's short and rrMay give. -/
import Derived.Test.YtbffnicfibfceaaXP12
import Derived.Test.YtbffnicfibfceaaXP4
namespace Go.Proofs.Ytbffnicfibfceaa
open Go.RowKit
open Pl

theorem short_as (x : Int) (b : Bool) (w : World) (h : inB 65535 x = b) :
    Calls Try.prog 32 #[.int .i64 x] w fun e w' => e = .returned (.bool b) ∧ w' = w := by
  by_cases h1 : 0 ≤ x
  · have HR : Hid (b = decide (x ≤ 65535)) := by unfold Hid; rw [← h]; unfold inB; simp [h1]
    clear h
    go_enter Try.func32, Try.ntmps32
    go_wp2
    go_ret
    exact ⟨ret_bool HR.out.symm, rfl⟩
  · have h1' : decide (0 ≤ x) = false := by simpa using h1
    have HR : Hid (b = false) := by unfold Hid; rw [← h]; unfold inB; simp; omega
    clear h
    go_enter Try.func32, Try.ntmps32
    go_wp2
    go_ret
    exact ⟨ret_bool HR.out.symm, rfl⟩

theorem rr_as (n : ByteArray) (t c l : Int) (d : ByteArray) (b1 b2 b3 b4 b5 b6 : Bool) (w : World)
    (k1 : ∀ u, Calls Try.prog 31 #[.string n] u fun e w' => e = .returned (.bool b1) ∧ Below u.heap.size u w')
    (k2 : ∀ u, Calls Try.prog 32 #[.int .i64 t] u fun e w' => e = .returned (.bool b2) ∧ w' = u)
    (k3 : decide (0 < t) = b3)
    (k4 : ∀ u, Calls Try.prog 32 #[.int .i64 c] u fun e w' => e = .returned (.bool b4) ∧ w' = u)
    (k5 : ∀ u, Calls Try.prog 47 #[.int .i64 l] u fun e w' => e = .returned (.bool b5) ∧ w' = u)
    (k6 : ∀ u, Calls Try.prog 48 #[.int .i64 t, .string d] u fun e w' => e = .returned (.bool b6) ∧ Below u.heap.size u w') :
    Calls Try.prog 33 #[.agg #[.string n, .int .i64 t, .int .i64 c, .int .i64 l, .string d]] w fun e w' => e = .returned (.bool (b1 && b2 && b3 && b4 && b5 && b6)) ∧ Below w.heap.size w w' := by
  have KB := Blk.new w #[.string n, .int .i64 t, .int .i64 c, .int .i64 l, .string d] 54
  have hb : Below w.heap.size w _ := lay (Below.refl _ _) (.cells #[.string n, .int .i64 t, .int .i64 c, .int .i64 l, .string d] 54)
  have t1 : True := trivial
  have hw : b1 = false ∨ (b1 = true ∧ b2 = false) ∨ (b1 = true ∧ b2 = true ∧ b3 = false) ∨ (b1 = true ∧ b2 = true ∧ b3 = true ∧ b4 = false) ∨ (b1 = true ∧ b2 = true ∧ b3 = true ∧ b4 = true ∧ b5 = false) ∨ (b1 = true ∧ b2 = true ∧ b3 = true ∧ b4 = true ∧ b5 = true) := by
    cases b1 <;> cases b2 <;> cases b3 <;> cases b4 <;> cases b5 <;> simp
  rcases hw with rfl | ⟨rfl, rfl⟩ | ⟨rfl, rfl, rfl⟩ | ⟨rfl, rfl, rfl, rfl⟩ | ⟨rfl, rfl, rfl, rfl, rfl⟩ | ⟨rfl, rfl, rfl, rfl, rfl⟩
  all_goals
    go_enter Try.func33, Try.ntmps33
    go_wp2_with (first
    | (go_at_call 31; go_must (refine (k1 _).mono ?_); rintro e w1 ⟨rfl, bb⟩; replace KB := KB.below bb; replace hb := next hb bb; have c1 : w1.cell? ⟨w.heap.size, 1, none⟩ = some (.int .i64 t) := KB.cell 1; have c2 : w1.cell? ⟨w.heap.size, 2, none⟩ = some (.int .i64 c) := KB.cell 2; have c3 : w1.cell? ⟨w.heap.size, 3, none⟩ = some (.int .i64 l) := KB.cell 3; have c4 : w1.cell? ⟨w.heap.size, 4, none⟩ = some (.string d) := KB.cell 4; clear bb)
    | (go_at_call 32; have _t := t1; go_must (refine (k2 _).mono ?_); rintro e w' ⟨rfl, hw⟩; obtain rfl := hw.symm; clear t1 _t)
    | (go_at_call 32; go_must (refine (k4 _).mono ?_); rintro e w' ⟨rfl, hw⟩; obtain rfl := hw.symm)
    | (go_at_call 47; go_must (refine (k5 _).mono ?_); rintro e w' ⟨rfl, hw⟩; obtain rfl := hw.symm)
    | (go_at_call 48; go_must (refine (k6 _).mono ?_); rintro e w2 ⟨rfl, bb⟩; replace hb := next hb bb; clear bb))
    go_ret
    exact ⟨ret_bool (by simp), hb⟩

theorem rrMay_any (r : Rc) (w : World) (hs : r.n.size ≤ maxLen) (hd : r.d.size ≤ maxLen) :
    Calls Try.prog 33 #[.agg #[.string r.n, .int .i64 r.t, .int .i64 r.c, .int .i64 r.l, .string r.d]] w fun e w' => e = .returned (.bool (mayR r)) ∧ Below w.heap.size w w' := by
  have e : mayR r = (isName r.n.data.toList && inB 65535 r.t && decide (0 < r.t) && inB 65535 r.c && inB 4294967295 r.l && mayD r.t r.d.data.toList) := by
    unfold mayR
    by_cases ht : 0 < r.t ∧ r.t ≤ 65535
    · have h1 : inB 65535 r.t = true := by unfold inB; simp; omega
      simp [h1, ht.1]
    · have h2 : mayD r.t r.d.data.toList = false := may_none (by omega) _
      simp [h2]
  rw [e]
  exact rr_as r.n r.t r.c r.l r.d _ _ _ _ _ _ w (fun u => refMay_at r.n _ u hs rfl) (fun u => short_as r.t _ u rfl) rfl (fun u => short_as r.c _ u rfl) (fun u => wide_any r.l u) (fun u => dataMay_any r.t r.d u hd)

end Go.Proofs.Ytbffnicfibfceaa

/- What the document's MsgMay gives. -/
namespace Go.Proofs.Ytbffnicfibfceaa
open Go.RowKit
open Pl

/-- The three parts of records. -/
def ptL (an ns ar : List Rc) : Nat → List Rc
  | 0 => an
  | 1 => ns
  | _ => ar
def ptV (v1 v2 v3 : Value) : Nat → Value
  | 0 => v1
  | 1 => v2
  | _ => v3
theorem pt_row {w : World} {v1 v2 v3 : Value} {an ns ar : List Rc} (h1 : RRow w v1 an) (h2 : RRow w v2 ns) (h3 : RRow w v3 ar) (k : Nat) : RRow w (ptV v1 v2 v3 k) (ptL an ns ar k) := by
  match k with
  | 0 => exact h1
  | 1 => exact h2
  | k + 2 => exact h3
theorem pt_cell {w : World} {g : Nat} {v1 v2 v3 : Value} {t : TypeId} (h : Blk w g #[v1, v2, v3] t) {k : Nat} (hk : k < 3) : w.cell? ⟨g, k, none⟩ = some (ptV v1 v2 v3 k) := by
  rw [h.cell k]
  match k, hk with
  | 0, _ => rfl
  | 1, _ => rfl
  | 2, _ => rfl
/-- Where it may not be. -/
theorem mayM_q {m : Ms} (h : few mayQ m.qs = false) : mayM m = false := by unfold mayM; rw [h]; simp
theorem mayM_r {m : Ms} {k : Nat} (h : few mayR (ptL m.an m.ns m.ar k) = false) : mayM m = false := by
  unfold mayM
  match k, h with
  | 0, h => have : few mayR m.an = false := h; rw [this]; simp
  | 1, h => have : few mayR m.ns = false := h; rw [this]; simp
  | k + 2, h => have : few mayR m.ar = false := h; rw [this]; simp
theorem few_no {α : Type} {f : α → Bool} {xs : List α} (h : 64 < xs.length) : few f xs = false := by
  unfold few
  have : decide (xs.length ≤ 64) = false := by simp; omega
  rw [this, Bool.false_and]
theorem few_all {α : Type} {f : α → Bool} {xs : List α} (h : ¬ 64 < xs.length) (h1 : xs.all f = true) : few f xs = true := by
  unfold few
  rw [h1]
  simp; omega
theorem mayM_yes {m : Ms} (hh : mayHd m.h = true) (h0 : few mayQ m.qs = true) (h : ∀ k, k < 3 → few mayR (ptL m.an m.ns m.ar k) = true) : mayM m = true := by
  unfold mayM
  have h1 : few mayR m.an = true := h 0 (by decide)
  have h2 : few mayR m.ns = true := h 1 (by decide)
  have h3 : few mayR m.ar = true := h 2 (by decide)
  rw [hh, h0, h1, h2, h3]; rfl

/-- What is held behind the header's look: the message's block; all that is old. -/
def HM (w wr : World) (C : Array Value) : Prop := Below w.heap.size w wr ∧ Blk wr w.heap.size C 27
theorem HM.below {w wr wr' : World} {C : Array Value} (h : HM w wr C) (hb : Below wr.heap.size wr wr') : HM w wr' C := ⟨next h.1 hb, h.2.below hb⟩
/-- .. and the row of parts. -/
def HP3 (w wr : World) (gp : Nat) (v1 v2 v3 : Value) : Prop := Below w.heap.size w wr ∧ Blk wr gp #[v1, v2, v3] 25
theorem HP3.below {w wr wr' : World} {gp : Nat} {v1 v2 v3 : Value} (h : HP3 w wr gp v1 v2 v3) (hb : Below wr.heap.size wr wr') : HP3 w wr' gp v1 v2 v3 := ⟨next h.1 hb, h.2.below hb⟩

theorem mayQ_as (q : Qn) : mayQ q = (isName q.n.data.toList && inB 65535 q.t && !(q.t == 0) && inB 65535 q.c) := by
  unfold mayQ inB
  rw [Bool.eq_iff_iff]
  simp only [Bool.and_eq_true, decide_eq_true_eq, Bool.not_eq_true', beq_eq_false_iff_ne, ne_eq]
  constructor
  · rintro ⟨⟨a, b⟩, c⟩; exact ⟨⟨⟨a, by omega⟩, by omega⟩, c⟩
  · rintro ⟨⟨⟨a, b⟩, c⟩, d⟩; exact ⟨⟨a, by omega⟩, d⟩

set_option maxRecDepth 20000 in
set_option maxHeartbeats 4000000 in
theorem msgMay_any (m : Ms) (v0 v1 v2 v3 : Value) (w : World) (h0 : QRow w v0 m.qs) (h1 : RRow w v1 m.an) (h2 : RRow w v2 m.ns) (h3 : RRow w v3 m.ar) :
    Calls Try.prog 14 #[.agg (msgC m.h v0 v1 v2 v3)] w fun e w' => e = .returned (.bool (mayM m)) ∧ Below w.heap.size w w' := by
  obtain ⟨x0, c0, rfl⟩ := row_slice h0.1
  obtain ⟨x1, c1, rfl⟩ := row_slice h1.1
  obtain ⟨x2, c2, rfl⟩ := row_slice h2.1
  obtain ⟨x3, c3, rfl⟩ := row_slice h3.1
  obtain ⟨R, hR⟩ : ∃ R, R = mayM m := ⟨_, rfl⟩
  rw [← hR]
  have HR : Hid (R = mayM m) := hR
  have hb : Below w.heap.size w w := Below.refl _ _
  have H0 : Hid (QRow w (.slice x0 m.qs.length c0) m.qs) := h0
  have H1 : Hid (RRow w (.slice x1 m.an.length c1) m.an) := h1
  have H2 : Hid (RRow w (.slice x2 m.ns.length c2) m.ns) := h2
  have H3 : Hid (RRow w (.slice x3 m.ar.length c3) m.ar) := h3
  have q0 := h0.2.1
  have q1 := h1.2.1
  have q2 := h2.2.1
  have q3 := h3.2.1
  unfold maxLen at q0 q1 q2 q3
  have hput := fun u => refPut_any m.h.id m.h.qr m.h.op m.h.aa m.h.tc m.h.rd m.h.ra m.h.z m.h.rc 0 0 0 0 u
  obtain ⟨b1, hb1⟩ : ∃ b, mayH m.h.id m.h.op m.h.z m.h.rc 0 0 0 0 = b := ⟨_, rfl⟩
  have HB1 : Hid (mayHd m.h = b1) := hb1
  unfold putT at hput
  simp only [hb1] at hput
  have KB := Blk.new w (msgC m.h (.slice x0 m.qs.length c0) (.slice x1 m.an.length c1) (.slice x2 m.ns.length c2) (.slice x3 m.ar.length c3)) 27
  clear h0 h1 h2 h3 hR hb1
  have E0 : Hid (few mayQ m.qs = false → R = false) := fun h => by rw [HR.out]; exact mayM_q h
  have ER : Hid (∀ k, few mayR (ptL m.an m.ns m.ar k) = false → R = false) := fun k h => by rw [HR.out]; exact mayM_r h
  have EY : Hid (mayHd m.h = true → few mayQ m.qs = true → (∀ k, k < 3 → few mayR (ptL m.an m.ns m.ar k) = true) → R = true) := fun a b c => by rw [HR.out]; exact mayM_yes a b c
  obtain ⟨hd, qs, an, ns, ar⟩ := m
  obtain ⟨id, qr, op, aa, tc, rd, ra, z, rc⟩ := hd
  unfold msgC at KB ⊢
  unfold headV cntV at hput
  simp only at hput KB HR H0 H1 H2 H3 HB1 E0 ER EY q0 q1 q2 q3 ⊢
  cases b1 with
  | false =>
    simp only [Bool.false_eq_true, if_false] at hput
    have HE : Hid (R = false) := by unfold Hid; rw [HR.out]; unfold mayM; rw [HB1.out]; rfl
    go_enter Try.func14, Try.ntmps14
    go_wp2_with (go_at_call 15; go_must (refine (hput _).mono ?_); rintro e w1 ⟨rfl, b1⟩; replace hb := next (lay hb _) b1; clear b1)
    go_ret
    exact ⟨ret_bool HE.out.symm, hb⟩
  | true =>
    simp only [if_true] at hput
    have hways : ((64 : Int) < (qs.length : Int)) ∨ (decide ((64 : Int) < (qs.length : Int)) = false ∧ (64 : Int) < (an.length : Int)) ∨ (decide ((64 : Int) < (qs.length : Int)) = false ∧ decide ((64 : Int) < (an.length : Int)) = false ∧ (64 : Int) < (ns.length : Int)) ∨ (decide ((64 : Int) < (qs.length : Int)) = false ∧ decide ((64 : Int) < (an.length : Int)) = false ∧ decide ((64 : Int) < (ns.length : Int)) = false ∧ (64 : Int) < (ar.length : Int)) ∨ (decide ((64 : Int) < (qs.length : Int)) = false ∧ decide ((64 : Int) < (an.length : Int)) = false ∧ decide ((64 : Int) < (ns.length : Int)) = false ∧ decide ((64 : Int) < (ar.length : Int)) = false) := by
      simp only [decide_eq_false_iff_not]; omega
    have HL : Hid (((64 : Int) < (qs.length : Int)) ∨ ((64 : Int) < (an.length : Int)) ∨ ((64 : Int) < (ns.length : Int)) ∨ ((64 : Int) < (ar.length : Int)) → R = false) := by
      intro h
      rcases h with h | h | h | h
      · exact E0.out (few_no (by omega))
      · exact ER.out 0 (few_no (by show 64 < an.length; omega))
      · exact ER.out 1 (few_no (by show 64 < ns.length; omega))
      · exact ER.out 2 (few_no (by show 64 < ar.length; omega))
    rcases hways with g0 | ⟨g0, g1⟩ | ⟨g0, g1, g2⟩ | ⟨g0, g1, g2, g3⟩ | ⟨g0, g1, g2, g3⟩
    · have HE : Hid (R = false) := HL.out (.inl g0)
      go_enter Try.func14, Try.ntmps14
      go_wp2_with (go_at_call 15; go_must (refine (hput _).mono ?_); rintro e w1 ⟨rfl, b1⟩; replace hb := next (lay hb _) b1; replace KB := KB.below b1; have f9 := KB.cell 9; clear b1)
      go_ret
      exact ⟨ret_bool HE.out.symm, hb⟩
    · have HE : Hid (R = false) := HL.out (.inr (.inl g1))
      go_enter Try.func14, Try.ntmps14
      go_wp2_with (go_at_call 15; go_must (refine (hput _).mono ?_); rintro e w1 ⟨rfl, b1⟩; replace hb := next (lay hb _) b1; replace KB := KB.below b1; have f9 := KB.cell 9; have f10 := KB.cell 10; clear b1)
      go_ret
      exact ⟨ret_bool HE.out.symm, hb⟩
    · have HE : Hid (R = false) := HL.out (.inr (.inr (.inl g2)))
      go_enter Try.func14, Try.ntmps14
      go_wp2_with (go_at_call 15; go_must (refine (hput _).mono ?_); rintro e w1 ⟨rfl, b1⟩; replace hb := next (lay hb _) b1; replace KB := KB.below b1; have f9 := KB.cell 9; have f10 := KB.cell 10; have f11 := KB.cell 11; clear b1)
      go_ret
      exact ⟨ret_bool HE.out.symm, hb⟩
    · have HE : Hid (R = false) := HL.out (.inr (.inr (.inr g3)))
      go_enter Try.func14, Try.ntmps14
      go_wp2_with (go_at_call 15; go_must (refine (hput _).mono ?_); rintro e w1 ⟨rfl, b1⟩; replace hb := next (lay hb _) b1; replace KB := KB.below b1; have f9 := KB.cell 9; have f10 := KB.cell 10; have f11 := KB.cell 11; have f12 := KB.cell 12; clear b1)
      go_ret
      exact ⟨ret_bool HE.out.symm, hb⟩
    · have HL4 : Hid (¬ 64 < qs.length ∧ ∀ k, ¬ 64 < (ptL an ns ar k).length) := by
        simp only [decide_eq_false_iff_not] at g0 g1 g2 g3
        refine ⟨by omega, fun k => ?_⟩
        match k with
        | 0 => show ¬ 64 < an.length; omega
        | 1 => show ¬ 64 < ns.length; omega
        | k + 2 => show ¬ 64 < ar.length; omega
      have HV : Hid (∀ k, RRow w (ptV (.slice x1 an.length c1) (.slice x2 ns.length c2) (.slice x3 ar.length c3) k) (ptL an ns ar k)) := fun k => pt_row H1.out H2.out H3.out k
      clear HL H1 H2 H3 HR
      go_enter Try.func14, Try.ntmps14
      go_wp2_with (go_at_call 15; go_must (refine (hput _).mono ?_); rintro e w1 ⟨rfl, b1⟩; replace hb := next (lay hb _) b1; replace KB := KB.below b1; have f9 := KB.cell 9; have f10 := KB.cell 10; have f11 := KB.cell 11; have f12 := KB.cell 12; clear b1)
      have HH : Hid (HM w w1 #[.int .i64 id, .bool qr, .int .i64 op, .bool aa, .bool tc, .bool rd, .bool ra, .int .i64 z, .int .i64 rc, .slice x0 qs.length c0, .slice x1 an.length c1, .slice x2 ns.length c2, .slice x3 ar.length c3]) := ⟨hb, KB⟩
      clear KB hb f9 f10 f11 f12 g0 g1 g2 g3
      go_loopw [5] (fun i wr => ∃ k : Nat, k ≤ qs.length ∧ i = .int .i64 (k : Int) ∧ Hid ((qs.take k).all mayQ = true) ∧ Hid (HM w wr #[.int .i64 id, .bool qr, .int .i64 op, .bool aa, .bool tc, .bool rd, .bool ra, .int .i64 z, .int .i64 rc, .slice x0 qs.length c0, .slice x1 an.length c1, .slice x2 ns.length c2, .slice x3 ar.length c3])) (fun i _ => qs.length - (intOf i).toNat)
      case atStart => exact ⟨0, Nat.zero_le _, rfl, by unfold Hid; simp, HH⟩
      case round =>
        clear HH
        obtain ⟨k, hk, rfl, HK, HH⟩ := hrel
        have f9 := HH.out.2.cell 9
        have f10 := HH.out.2.cell 10
        have f11 := HH.out.2.cell 11
        have f12 := HH.out.2.cell 12
        by_cases hkn : k < qs.length
        · obtain ⟨g, o, cap, hx, hc⟩ := row_at (H0.out.below HH.out.1).1 (by omega)
          simp only [Value.slice.injEq] at hx
          obtain ⟨rfl, -, rfl⟩ := hx
          obtain ⟨d0, d1, d2⟩ := q_cells hc hkn
          have hsz := H0.out.2.2 _ (List.getElem_mem hkn)
          obtain ⟨q, hq⟩ : ∃ q, q = qs[k] := ⟨_, rfl⟩
          simp only [← hq] at d0 d1 d2 hsz
          have HQ : Hid (q = qs[k]) := hq
          obtain ⟨qn, qt, qc⟩ := q
          simp only at d0 d1 d2 hsz
          obtain ⟨b1, hb1⟩ : ∃ b, isName qn.data.toList = b := ⟨_, rfl⟩
          obtain ⟨b2, hb2⟩ : ∃ b, inB 65535 qt = b := ⟨_, rfl⟩
          obtain ⟨b3, hb3⟩ : ∃ b, (qt == 0) = b := ⟨_, rfl⟩
          obtain ⟨b4, hb4⟩ : ∃ b, inB 65535 qc = b := ⟨_, rfl⟩
          have HB : Hid (mayQ qs[k] = (b1 && b2 && !b3 && b4)) := by unfold Hid; rw [← HQ.out, mayQ_as]; simp only; rw [hb1, hb2, hb3, hb4]
          have k1 := fun u => refMay_at qn b1 u hsz hb1
          have k2 := fun u => short_as qt b2 u hb2
          have k4 := fun u => short_as qc b4 u hb4
          have HNO : Hid (mayQ qs[k] = false → R = false) := fun h => E0.out (all_no hkn h)
          have KQ := Blk.new wr #[.string qn, .int .i64 qt, .int .i64 qc] 40
          have t1 : True := trivial
          clear hc hq hb1 hb2 hb4 hsz
          have hw : b1 = false ∨ (b1 = true ∧ b2 = false) ∨ (b1 = true ∧ b2 = true ∧ b3 = true) ∨ (b1 = true ∧ b2 = true ∧ b3 = false ∧ b4 = false) ∨ (b1 = true ∧ b2 = true ∧ b3 = false ∧ b4 = true) := by
            cases b1 <;> cases b2 <;> cases b3 <;> cases b4 <;> simp
          rcases hw with rfl | ⟨rfl, rfl⟩ | ⟨rfl, rfl, rfl⟩ | ⟨rfl, rfl, rfl, rfl⟩ | ⟨rfl, rfl, rfl, rfl⟩
          · have HF : Hid (R = false) := HNO.out (by rw [HB.out]; simp)
            go_wp2_with (first
              | (go_at_call 31; go_must (refine (k1 _).mono ?_); rintro e w2 ⟨rfl, bb⟩; have HH2 := (HH.out.below (lay (Below.refl _ _) _)).below bb; have HHN : Hid _ := HH2; replace KQ := KQ.below bb; have e1 : w2.cell? ⟨wr.heap.size, 1, none⟩ = some (.int .i64 qt) := KQ.cell 1; have e2 : w2.cell? ⟨wr.heap.size, 2, none⟩ = some (.int .i64 qc) := KQ.cell 2; clear bb HH2)
              | (go_at_call 32; have _t := t1; go_must (refine (k2 _).mono ?_); rintro e w' ⟨rfl, hw⟩; obtain rfl := hw.symm; clear t1 _t)
              | (go_at_call 32; go_must (refine (k4 _).mono ?_); rintro e w' ⟨rfl, hw⟩; obtain rfl := hw.symm))
            go_ret
            exact ⟨ret_bool HF.out.symm, HHN.out.1⟩
          · have HF : Hid (R = false) := HNO.out (by rw [HB.out]; simp)
            go_wp2_with (first
              | (go_at_call 31; go_must (refine (k1 _).mono ?_); rintro e w2 ⟨rfl, bb⟩; have HH2 := (HH.out.below (lay (Below.refl _ _) _)).below bb; have HHN : Hid _ := HH2; replace KQ := KQ.below bb; have e1 : w2.cell? ⟨wr.heap.size, 1, none⟩ = some (.int .i64 qt) := KQ.cell 1; have e2 : w2.cell? ⟨wr.heap.size, 2, none⟩ = some (.int .i64 qc) := KQ.cell 2; clear bb HH2)
              | (go_at_call 32; have _t := t1; go_must (refine (k2 _).mono ?_); rintro e w' ⟨rfl, hw⟩; obtain rfl := hw.symm; clear t1 _t)
              | (go_at_call 32; go_must (refine (k4 _).mono ?_); rintro e w' ⟨rfl, hw⟩; obtain rfl := hw.symm))
            go_ret
            exact ⟨ret_bool HF.out.symm, HHN.out.1⟩
          · have HF : Hid (R = false) := HNO.out (by rw [HB.out]; simp)
            go_wp2_with (first
              | (go_at_call 31; go_must (refine (k1 _).mono ?_); rintro e w2 ⟨rfl, bb⟩; have HH2 := (HH.out.below (lay (Below.refl _ _) _)).below bb; have HHN : Hid _ := HH2; replace KQ := KQ.below bb; have e1 : w2.cell? ⟨wr.heap.size, 1, none⟩ = some (.int .i64 qt) := KQ.cell 1; have e2 : w2.cell? ⟨wr.heap.size, 2, none⟩ = some (.int .i64 qc) := KQ.cell 2; clear bb HH2)
              | (go_at_call 32; have _t := t1; go_must (refine (k2 _).mono ?_); rintro e w' ⟨rfl, hw⟩; obtain rfl := hw.symm; clear t1 _t)
              | (go_at_call 32; go_must (refine (k4 _).mono ?_); rintro e w' ⟨rfl, hw⟩; obtain rfl := hw.symm))
            go_ret
            exact ⟨ret_bool HF.out.symm, HHN.out.1⟩
          · have HF : Hid (R = false) := HNO.out (by rw [HB.out]; simp)
            go_wp2_with (first
              | (go_at_call 31; go_must (refine (k1 _).mono ?_); rintro e w2 ⟨rfl, bb⟩; have HH2 := (HH.out.below (lay (Below.refl _ _) _)).below bb; have HHN : Hid _ := HH2; replace KQ := KQ.below bb; have e1 : w2.cell? ⟨wr.heap.size, 1, none⟩ = some (.int .i64 qt) := KQ.cell 1; have e2 : w2.cell? ⟨wr.heap.size, 2, none⟩ = some (.int .i64 qc) := KQ.cell 2; clear bb HH2)
              | (go_at_call 32; have _t := t1; go_must (refine (k2 _).mono ?_); rintro e w' ⟨rfl, hw⟩; obtain rfl := hw.symm; clear t1 _t)
              | (go_at_call 32; go_must (refine (k4 _).mono ?_); rintro e w' ⟨rfl, hw⟩; obtain rfl := hw.symm))
            go_ret
            exact ⟨ret_bool HF.out.symm, HHN.out.1⟩
          · have HK2 : Hid ((qs.take (k + 1)).all mayQ = true) := all_take hkn HK.out (by rw [HB.out]; simp)
            go_wp2_with (first
              | (go_at_call 31; go_must (refine (k1 _).mono ?_); rintro e w2 ⟨rfl, bb⟩; have HH2 := (HH.out.below (lay (Below.refl _ _) _)).below bb; have HHN : Hid _ := HH2; replace KQ := KQ.below bb; have e1 : w2.cell? ⟨wr.heap.size, 1, none⟩ = some (.int .i64 qt) := KQ.cell 1; have e2 : w2.cell? ⟨wr.heap.size, 2, none⟩ = some (.int .i64 qc) := KQ.cell 2; clear bb HH2)
              | (go_at_call 32; have _t := t1; go_must (refine (k2 _).mono ?_); rintro e w' ⟨rfl, hw⟩; obtain rfl := hw.symm; clear t1 _t)
              | (go_at_call 32; go_must (refine (k4 _).mono ?_); rintro e w' ⟨rfl, hw⟩; obtain rfl := hw.symm))
            go_roundw
            case rel => exact ⟨k + 1, by omega, by go_num, HK2, HHN⟩
            case measure => simp [intOf]; omega
        · have hkn' : decide (k < qs.length) = false := by simpa using hkn
          have HFQ : Hid (few mayQ qs = true) := by
            have h1 := HK.out
            rw [List.take_of_length_le (by omega)] at h1
            exact few_all HL4.out.1 h1
          go_wp2
          have HP : Hid (HP3 w (wr.alloc (.cells #[.slice x1 an.length c1, .slice x2 ns.length c2, .slice x3 ar.length c3] 25)) wr.heap.size (.slice x1 an.length c1) (.slice x2 ns.length c2) (.slice x3 ar.length c3)) := ⟨lay HH.out.1 _, Blk.new wr _ _⟩
          obtain ⟨gp, hgp⟩ : ∃ gp, wr.heap.size = gp := ⟨_, rfl⟩
          rw [hgp] at HP ⊢
          clear hgp HH HK f9 f10 f11 f12
          go_loopw [8] (fun i wr => ∃ k : Nat, k ≤ 3 ∧ i = .int .i64 (k : Int) ∧ Hid (∀ j, j < k → few mayR (ptL an ns ar j) = true) ∧ Hid (HP3 w wr gp (.slice x1 an.length c1) (.slice x2 ns.length c2) (.slice x3 ar.length c3))) (fun i _ => 3 - (intOf i).toNat)
          case atStart => exact ⟨0, by omega, rfl, fun j hj => by omega, HP⟩
          case round =>
            clear HP
            obtain ⟨p, hp, rfl, HK, HP⟩ := hrel
            by_cases hp3 : p < 3
            · have hp3' : (p : Int) < 3 := by omega
              have hcell := pt_cell HP.out.2 hp3
              have hrow := HV.out p
              obtain ⟨y, cy, hy⟩ := row_slice hrow.1
              obtain ⟨rs, hrs⟩ : ∃ rs, ptL an ns ar p = rs := ⟨_, rfl⟩
              obtain ⟨n, hn⟩ : ∃ n, n = (ptL an ns ar p).length := ⟨_, rfl⟩
              rw [← hn] at hy
              rw [hy] at hcell hrow
              have HROW : Hid (RRow w (.slice y n cy) (ptL an ns ar p)) := hrow
              have HN : Hid (n = (ptL an ns ar p).length) := hn
              have hmax := hrow.2.1
              rw [← hn] at hmax
              unfold maxLen at hmax
              have HNO : Hid (few mayR (ptL an ns ar p) = false → R = false) := ER.out p
              clear hrow hn hy hrs
              go_wp2
              go_loopw [9] (fun i wr => ∃ j : Nat, j ≤ n ∧ i = .int .i64 (j : Int) ∧ Hid (((ptL an ns ar p).take j).all mayR = true) ∧ Hid (HP3 w wr gp (.slice x1 an.length c1) (.slice x2 ns.length c2) (.slice x3 ar.length c3)) ∧ wr.cell? ⟨gp, p, none⟩ = some (.slice y n cy)) (fun i _ => n - (intOf i).toNat)
              case atStart => exact ⟨0, Nat.zero_le _, rfl, by unfold Hid; simp, HP, hcell⟩
              case round =>
                clear HP hcell
                obtain ⟨j, hj, rfl, HJ, HP, hcell⟩ := hrel
                by_cases hjn : j < n
                · have hjm : j < (ptL an ns ar p).length := by have := HN.out; omega
                  obtain ⟨g, o, cap, hx, hc⟩ := row_at (HROW.out.below HP.out.1).1 (by omega)
                  simp only [Value.slice.injEq] at hx
                  obtain ⟨rfl, -, rfl⟩ := hx
                  obtain ⟨d0, d1, d2, d3, d4⟩ := r_cells hc hjm
                  have hcall := fun u => rrMay_any (ptL an ns ar p)[j] u (HROW.out.2.2 _ (List.getElem_mem hjm)).1 (HROW.out.2.2 _ (List.getElem_mem hjm)).2
                  obtain ⟨q, hq⟩ : ∃ q, q = (ptL an ns ar p)[j] := ⟨_, rfl⟩
                  simp only [← hq] at d0 d1 d2 d3 d4 hcall
                  obtain ⟨b, hbq⟩ : ∃ b, mayR q = b := ⟨_, rfl⟩
                  rw [hbq] at hcall
                  have HB : Hid (mayR (ptL an ns ar p)[j] = b) := by unfold Hid; rw [← hq]; exact hbq
                  obtain ⟨qn, qt, qc, ql, qd⟩ := q
                  simp only at d0 d1 d2 d3 d4 hcall
                  clear hc hq hbq
                  cases b with
                  | false =>
                    have HF : Hid (R = false) := HNO.out (all_no hjm HB.out)
                    go_wp2_with (go_at_call 33; go_must (refine (hcall _).mono ?_); rintro e w2 ⟨rfl, bb⟩; have HP2 : Hid _ := HP.out.below bb; have hcell2 : w2.cell? ⟨gp, p, none⟩ = some (.slice (some ⟨g, o, none⟩) n cy) := (by rw [bb.cell (World.block_lt_of_cell? _ _ hcell)]; exact hcell); clear bb)
                    go_ret
                    exact ⟨ret_bool HF.out.symm, HP2.out.1⟩
                  | true =>
                    have HK2 : Hid (((ptL an ns ar p).take (j + 1)).all mayR = true) := all_take hjm HJ.out HB.out
                    go_wp2_with (go_at_call 33; go_must (refine (hcall _).mono ?_); rintro e w2 ⟨rfl, bb⟩; have HP2 : Hid _ := HP.out.below bb; have hcell2 : w2.cell? ⟨gp, p, none⟩ = some (.slice (some ⟨g, o, none⟩) n cy) := (by rw [bb.cell (World.block_lt_of_cell? _ _ hcell)]; exact hcell); clear bb)
                    go_roundw
                    case rel => exact ⟨j + 1, by omega, by go_num, HK2, HP2, hcell2⟩
                    case measure => simp [intOf]; omega
                · have hjn' : decide (j < n) = false := by simpa using hjn
                  have HF : Hid (∀ i, i < p + 1 → few mayR (ptL an ns ar i) = true) := fun i hi => by
                    by_cases h : i < p
                    · exact HK.out i h
                    · have h1 := HJ.out
                      rw [List.take_of_length_le (by have := HN.out; omega)] at h1
                      have e : i = p := by omega
                      subst e
                      exact few_all (HL4.out.2 i) h1
                  go_wp2
                  go_roundw
                  case rel => exact ⟨p + 1, by omega, by go_num, HF, HP⟩
                  case measure => simp [intOf]; omega
            · have hp3' : decide ((p : Int) < 3) = false := by simp; omega
              have HT : Hid (R = true) := EY.out HB1.out HFQ.out (fun k hk => HK.out k (by omega))
              go_wp2
              go_ret
              exact ⟨ret_bool HT.out.symm, HP.out.1⟩

end Go.Proofs.Ytbffnicfibfceaa

/- The document's Writer as it lies in memory; what its Raw, All and place give. -/
namespace Go.Proofs.Ytbffnicfibfceaa
open Go.RowKit
open Pl

theorem infoM : (Try.prog.info? 80).map (fun i => (i.zero, i.size, i.bytes)) = some (some (.agg #[.string ⟨#[]⟩, .int .i64 0]), 2, 24) := by kernel_rfl

/-- A rest and its place, as cells. -/
def mkC (ms : Marks) : List Value := ms.flatMap fun m => [.string ⟨m.1.toArray⟩, .int .i64 (m.2 : Int)]
theorem mkC_app (a b : Marks) : mkC (a ++ b) = mkC a ++ mkC b := by simp [mkC]
theorem mkC_len (a : Marks) : (mkC a).length = a.length * 2 := by
  induction a with
  | nil => rfl
  | cons c t ih =>
    have : mkC (c :: t) = [.string ⟨c.1.toArray⟩, .int .i64 (c.2 : Int)] ++ mkC t := by simp [mkC]
    rw [this, List.length_append, ih]; simp; omega
theorem mkC_one (a : Marks) : ∀ u ∈ mkC a, u.oneCell' = true := by
  intro u hu
  simp only [mkC, List.mem_flatMap] at hu
  obtain ⟨m, _, hu⟩ := hu
  simp at hu
  rcases hu with rfl | rfl <;> rfl
theorem mkC_get : ∀ (a : Marks) (k : Nat) (hk : k < a.length), (mkC a)[2 * k]? = some (.string ⟨a[k].1.toArray⟩) ∧ (mkC a)[2 * k + 1]? = some (.int .i64 (a[k].2 : Int)) := by
  intro a
  induction a with
  | nil => intro k hk; simp at hk
  | cons c t ih =>
    intro k hk
    have e : mkC (c :: t) = .string ⟨c.1.toArray⟩ :: .int .i64 (c.2 : Int) :: mkC t := by simp [mkC]
    rw [e]
    cases k with
    | zero => exact ⟨rfl, rfl⟩
    | succ k =>
      have := ih k (by simp at hk; omega)
      rw [show 2 * (k + 1) = (2 * k + 1) + 1 from by omega, show (2 * k + 1) + 1 + 1 = (2 * k + 1 + 1) + 1 from by omega]
      simp only [List.getElem?_cons_succ, List.getElem_cons_succ]
      exact this

/-- A Writer of the document's. -/
def RW (w : World) (h : Nat) (O : ByteArray) (v : Value) (ms : Marks) : Prop :=
  Blk w h #[.string O, v] 46 ∧ w.ownsRow 0 80 2 v ms.length (mkC ms)
def own2 (h : Nat) (v : Value) (k : Nat) : Prop := k = h ∨ v.ownBlock = some k

section
variable {w w' : World} {h : Nat} {O : ByteArray} {v : Value} {ms : Marks}
theorem RW.sep (a : RW w h O v ms) : some h ≠ v.ownBlock := by
  intro e
  rcases a.2.2 with ⟨h1, _⟩ | ⟨g', cap, cur, h1, _, hg, _⟩
  · rw [h1] at e; simp [Value.ownBlock] at e
  · rw [h1] at e
    simp [Value.ownBlock] at e
    subst e
    have := a.1
    unfold Blk at this
    rw [hg] at this
    simp at this
theorem RW.turn {S : Nat → Prop} (a : RW w h O v ms) (ht : Turn S w w') (hs : ∀ k, own2 h v k → ¬ S k) : RW w' h O v ms :=
  ⟨ht.blk a.1 (hs h (.inl rfl)), ht.row a.2 (fun k hk => hs k (.inr hk))⟩
theorem RW.below (a : RW w h O v ms) (hb : Below w.heap.size w w') : RW w' h O v ms := a.turn (S := fun _ => False) (Turn.of_below hb) (fun _ _ => id)
theorem RW.new (w : World) : RW (w.alloc (.cells #[.string ⟨#[]⟩, .slice none 0 0] 46)) w.heap.size ⟨#[]⟩ (.slice none 0 0) [] := ⟨Blk.new w _ _, World.ownsRow_nil _ _ _ _⟩
/-- What a call leaves of the document's Writer. -/
def RLeft (h : Nat) (v : Value) (w w' : World) (B : List UInt8) (ms : Marks) : Prop :=
  ∃ O v', RW w' h O v' ms ∧ O.data.toList = B ∧ Turn (own2 h v) w w' ∧ ∀ k, own2 h v' k → own2 h v k ∨ w.heap.size ≤ k
end

theorem rAll_any (h : Nat) (O : ByteArray) (v : Value) (ms : Marks) (w : World) (a : RW w h O v ms) :
    Calls Try.prog 20 #[.pointer (some ⟨h, 0, none⟩)] w fun e w' => e = .returned (.string O) ∧ w' = w := by
  have c0 : w.cell? ⟨h, 0, none⟩ = some (.string O) := a.1.cell 0
  clear a
  go_enter Try.func20, Try.ntmps20
  go_wp2
  go_ret
  exact ⟨rfl, rfl⟩

/-- The document's Writer, its bytes stored anew. -/
theorem RW.stored {w : World} {h : Nat} {O O' : ByteArray} {v : Value} {ms : Marks} (a : RW w h O v ms) : RW (w.setCell ⟨h, 0, none⟩ (.string O')) h O' v ms ∧ Turn (own2 h v) w (w.setCell ⟨h, 0, none⟩ (.string O')) := by
  have hblk := a.1.set 0 (.string O')
  rw [set0] at hblk
  refine ⟨⟨hblk, ?_⟩, Turn.of_set (S := own2 h v) w (p := ⟨h, 0, none⟩) (.inl rfl) _⟩
  exact Turn.row (S := fun k => k = h) (Turn.of_set (S := fun k => k = h) w (p := ⟨h, 0, none⟩) rfl _) a.2 (fun k hk e => a.sep (by rw [hk, e]))

theorem rRaw_any (h : Nat) (O : ByteArray) (v : Value) (B : List UInt8) (ms : Marks) (s : ByteArray) (w : World) (hO : O.data.toList = B) (hB : B.length ≤ 4096) (hs : s.size ≤ maxLen) (a : RW w h O v ms) :
    Calls Try.prog 16 #[.pointer (some ⟨h, 0, none⟩), .string s] w fun e w' => e = .returned (.int .i64 (rawE B s)) ∧ RLeft h v w w' (rawB B s) ms := by
  have hOs : O.size = B.length := by rw [← data_len, hO]
  have c0 : w.cell? ⟨h, 0, none⟩ = some (.string O) := a.1.cell 0
  have f0 := a.1.frozen 0
  have HA : Hid (RW w h O v ms) := a
  have hs := hs
  unfold maxLen at hs
  clear a
  by_cases hfit : B.length + s.size ≤ 4096
  · have hfit' : decide ((4096 : Int) - (O.size : Int) < (s.size : Int)) = false := by simp; omega
    have HE : Hid (rawE B s = 0 ∧ rawB B s = (O ++ s).data.toList) := by unfold Hid rawE rawB; rw [if_pos hfit, if_pos hfit, app_list, hO]; exact ⟨rfl, rfl⟩
    have hz : O.size + s.size ≤ 100000 := by omega
    have hOb : O.size ≤ 4096 := by omega
    clear hfit hO hOs hB
    go_enter Try.func16, Try.ntmps16
    go_wp2
    go_ret
    rw [HE.out.1, HE.out.2]
    obtain ⟨b1, b2⟩ := HA.out.stored (O' := O ++ s)
    exact ⟨rfl, _, _, b1, rfl, b2, fun k hk => .inl hk⟩
  · have hfit' : (4096 : Int) - (O.size : Int) < (s.size : Int) := by omega
    have HE : Hid (rawE B s = 501 ∧ rawB B s = B) := by unfold Hid rawE rawB; rw [if_neg hfit, if_neg hfit]; exact ⟨rfl, rfl⟩
    have HO : Hid (O.data.toList = B) := hO
    have hOb : O.size ≤ 4096 := by omega
    clear hfit hO hOs hB
    go_enter Try.func16, Try.ntmps16
    go_wp2
    go_ret
    rw [HE.out.1, HE.out.2]
    exact ⟨rfl, _, _, HA.out, HO.out, Turn.refl _ _, fun k hk => .inl hk⟩

/-- Where a rest stands, as the document says it. -/
def plI : Option Nat → Int
  | none => -1
  | some q => (q : Int)
theorem plc_skip {ms : Marks} {r : List UInt8} {k : Nat} (hk : k < ms.length) (h : plc ms r = plc (ms.drop k) r) (hne : ms[k].1 ≠ r) : plc ms r = plc (ms.drop (k + 1)) r := by
  rw [h, List.drop_eq_getElem_cons hk]
  rw [plc, if_neg hne]
theorem plc_found {ms : Marks} {r : List UInt8} {k : Nat} (hk : k < ms.length) (h : plc ms r = plc (ms.drop k) r) (he : ms[k].1 = r) : plc ms r = some ms[k].2 := by
  rw [h, List.drop_eq_getElem_cons hk]
  rw [plc, if_pos he]
theorem ret_pl {R R' : Option Nat} {v : Value} (h : R = R') (hv : v = .int .i64 (plI R')) : Ending.returned v = .returned (.int .i64 (plI R)) := by rw [h, hv]

set_option maxRecDepth 20000 in
theorem rPlace_any (h : Nat) (O : ByteArray) (v : Value) (ms : Marks) (r : ByteArray) (w : World) (hm : ms.length ≤ 5000) (a : RW w h O v ms) :
    Calls Try.prog 35 #[.pointer (some ⟨h, 0, none⟩), .string r] w fun e w' => e = .returned (.int .i64 (plI (plc ms r.data.toList))) ∧ w' = w := by
  obtain ⟨y, c, hv⟩ := row_shape a.2
  obtain ⟨n, hn⟩ : ∃ n, n = ms.length := ⟨_, rfl⟩
  rw [← hn] at hv hm
  subst hv
  have c1 : w.cell? ⟨h, 1, none⟩ = some (.slice y n c) := a.1.cell 1
  have HR : Hid (w.ownsRow 0 80 2 (.slice y n c) n (mkC ms)) := by unfold Hid; rw (occs := .pos [2]) [hn]; exact a.2
  have HN : Hid (n = ms.length) := hn
  obtain ⟨R, hR⟩ : ∃ R, R = plc ms r.data.toList := ⟨_, rfl⟩
  have HRR : Hid (R = plc ms r.data.toList) := hR
  rw [← hR]
  clear a hn hR
  go_enter Try.func35, Try.ntmps35
  go_wp2
  go_loop [5] (fun i => ∃ k : Nat, k ≤ n ∧ i = .int .i64 (k : Int) ∧ Hid (plc ms r.data.toList = plc (ms.drop k) r.data.toList)) (fun i => n - (intOf i).toNat)
  case atStart => exact ⟨0, Nat.zero_le _, rfl, rfl⟩
  case round =>
    obtain ⟨k, hk, rfl, HK⟩ := hrel
    by_cases hkn : k < n
    · obtain ⟨gb, rfl⟩ := row_some HR.out (by omega)
      have hkm : k < ms.length := by have := HN.out; omega
      have hkn' : (k : Int) < (n : Int) := by omega
      obtain ⟨g1, g2⟩ := mkC_get ms k hkm
      obtain ⟨S, hS⟩ : ∃ S : ByteArray, S.data.toList = ms[k].1 := ⟨⟨ms[k].1.toArray⟩, rfl⟩
      obtain ⟨q, hq⟩ : ∃ q, q = ms[k].2 := ⟨_, rfl⟩
      have d1 : w.cell? ⟨gb, k * 2, none⟩ = some (.string S) := by rw [HR.out.cellAt (k * 2) (by omega), Nat.mul_comm, g1, mk_of hS]
      have d2 : w.cell? ⟨gb, k * 2 + 1, none⟩ = some (.int .i64 (q : Int)) := by rw [HR.out.cellAt (k * 2 + 1) (by omega), Nat.mul_comm, g2, hq]
      by_cases he : ms[k].1 = r.data.toList
      · have ht : (S.toList == r.toList) = true := by rw [ByteArray.toList_eq, ByteArray.toList_eq, hS, he]; simp
        have HP : Hid (R = some q) := by unfold Hid; rw [HRR.out, hq]; exact plc_found hkm HK.out he
        clear he hS hq g1 g2
        go_wp2
        go_ret
        exact ⟨ret_pl HP.out rfl, rfl⟩
      · have ht : (S.toList == r.toList) = false := by rw [ByteArray.toList_eq, ByteArray.toList_eq, hS]; simpa using he
        have HP : Hid (plc ms r.data.toList = plc (ms.drop (k + 1)) r.data.toList) := plc_skip hkm HK.out he
        clear he hS hq g1 g2
        go_wp2
        go_round
        case rel => exact ⟨k + 1, by omega, by go_num, HP⟩
        case measure => simp [intOf]; omega
    · have HP : Hid (R = none) := by unfold Hid; rw [HRR.out, HK.out, List.drop_of_length_le (by have := HN.out; omega)]; rfl
      have hkn' : decide (k < n) = false := by simpa using hkn
      go_wp2
      go_ret
      exact ⟨ret_pl HP.out rfl, rfl⟩

theorem rPlace_as (h : Nat) (O : ByteArray) (v : Value) (ms : Marks) (r : ByteArray) (R : Option Nat) (w : World) (hm : ms.length ≤ 5000) (a : RW w h O v ms) (hR : plc ms r.data.toList = R) :
    Calls Try.prog 35 #[.pointer (some ⟨h, 0, none⟩), .string r] w fun e w' => e = .returned (.int .i64 (plI R)) ∧ w' = w := by rw [← hR]; exact rPlace_any h O v ms r w hm a

/-- Rests are appended to a row of rests that the call owns, out of a row that lies anywhere; there may be none. -/
theorem wpList_appM (w : World) {ops : Array Oper} {rest : List Oper} {o : Oper} {a : Act} {Q : Exit → Act → World → Prop} (hgd : o.guard = none) (s x : Operand)
    (ho : o.op = .call { callee := .builtin .append, args := #[s, x], argTypes := #[44, 44] }) (base : Nat) (v : Value) (n : Nat) (xs : List Value) (hs : a.eval s = v)
    (hown : w.ownsRow base 80 2 v n xs) (x0 : Option Addr) (m c : Nat) (ms : Marks) (hx : a.eval x = .slice x0 m c) (hml : ms.length = m)
    (hcell : m = 0 ∨ ∃ ad, x0 = some ad ∧ ∀ j u, (mkC ms)[j]? = some u → w.cell? (ad.add j) = some u) (hn : n + m ≤ 10000) (hbase : base ≤ w.heap.size)
    (h : ∀ v' w', w'.ownsRow base 80 2 v' (n + m) (xs ++ mkC ms) → w.grownBy w' v.ownBlock → (v'.ownBlock = v.ownBlock ∨ ∃ g, v'.ownBlock = some g ∧ w.heap.size ≤ g) → wpList Try.prog ops Q rest (a.put o.dst v') w') :
    wpList Try.prog ops Q (o :: rest) a w := by
  obtain ⟨i0, hi, hz0, hz1, hz2⟩ := info_parts infoM
  by_cases hm : m = 0
  · subst hm
    have hms : ms = [] := List.eq_nil_of_length_eq_zero hml
    subst hms
    refine wpList_plain hgd fun K hK => ?_
    have hsrc : Src Try.prog i0.size 44 (.slice x0 0 c) 0 [] w := by
      cases x0 with
      | none => exact Src.ofNil w Try.underlying44 c
      | some ad => exact Src.ofSlice w Try.underlying44 ad 0 c [] (by simp) (fun j u hu => by simp at hu) (fun u hu => by cases hu)
    have hv : ∃ b l k, v = .slice b l k ∧ l ≤ k := by
      rcases hown.2 with ⟨rfl, rfl⟩ | ⟨g, cap, cur, rfl, _, _, hnc, _⟩
      · exact ⟨_, _, _, rfl, Nat.le_refl _⟩
      · exact ⟨_, _, _, rfl, hnc⟩
    obtain ⟨b, l, k, hv, hlk⟩ := hv
    have hrun := run_append_nothing (P := Try.prog) w 44 44 o.type 80 i0 Try.underlying44 hi b l k hlk _ hsrc
    rw [← hv] at hrun
    unfold Oper.wp
    simp only [execOp, ho, resolve, invoke, builtin, Sem.run_bind, Sem.run_pure, Result.andThen_ok, List.map_toArray, List.map_cons, List.map_nil, hs, hx, hrun]
    exact hK _ _ (h v w (by simpa [mkC] using hown) (World.grownBy.refl w _) (.inl rfl))
  · rcases hcell with h0 | ⟨ad, rfl, hcell⟩
    · exact absurd h0 hm
    refine wpList_append_lies w hgd s x 44 ho base 80 i0 (.agg #[.string ⟨#[]⟩, .int .i64 0]) 2 24 Try.underlying44 hi hz0 hz1 hz2 rfl (by decide) v n xs hs hown ad m c (mkC ms) hx (by rw [mkC_len, hml]) hcell (mkC_one ms) (by omega) (by unfold maxLen; omega) (by omega) hbase _ rfl ?_
    intro g cap w' h1 h2 h3 h4
    refine h _ w' h1 h2 ?_
    rcases h3 with h3 | h3
    · exact .inl h3.symm
    · exact .inr ⟨g, rfl, by omega⟩

end Go.Proofs.Ytbffnicfibfceaa
