/- What mayPart gives, of questions and of records. -/
import Derived.Test.YtcapankhobnfeaaXP4
namespace Go.Proofs.Ytcapankhobnfeaa
open Go.RowKit
open Pl

theorem row_none {w : World} {v : Value} {xs : List Value} (h : Row w v 0 xs) : ∃ x c, v = .slice x 0 c := by
  rcases h with ⟨h, _⟩ | ⟨g, o, p, cap, h, _⟩
  · exact ⟨_, _, h⟩
  · exact ⟨_, _, h⟩
theorem row_at {w : World} {v : Value} {n : Nat} {xs : List Value} (h : Row w v n xs) (hn : 0 < n) : ∃ g o cap, v = .slice (some ⟨g, o, none⟩) n cap ∧ ∀ j u, xs[j]? = some u → w.cell? ⟨g, o + j, none⟩ = some u := by
  rcases h with ⟨_, h⟩ | ⟨g, o, p, cap, h, hp, hc⟩
  · omega
  · rw [hp hn] at h; exact ⟨g, o, cap, h, hc⟩
theorem row_slice {w : World} {v : Value} {n : Nat} {xs : List Value} (h : Row w v n xs) : ∃ x c, v = .slice x n c := by
  rcases h with ⟨h, rfl⟩ | ⟨g, o, p, cap, h, _⟩
  · exact ⟨_, _, h⟩
  · exact ⟨_, _, h⟩
theorem qC_at {xs : List Qn} {k : Nat} (hk : k < xs.length) (i : Nat) (hi : i < 3) : (qC xs)[k * 3 + i]? = (qV xs[k])[i]? := flat_get (f := qV) (z := 3) (fun _ => rfl) xs k hk i hi
theorem rC_at {xs : List Rc} {k : Nat} (hk : k < xs.length) (i : Nat) (hi : i < 5) : (rC xs)[k * 5 + i]? = (rV xs[k])[i]? := flat_get (f := rV) (z := 5) (fun _ => rfl) xs k hk i hi
/-- The cells of one element. -/
theorem q_cells {w : World} {g o : Nat} {xs : List Qn} (hc : ∀ j u, (qC xs)[j]? = some u → w.cell? ⟨g, o + j, none⟩ = some u) {k : Nat} (hk : k < xs.length) :
    w.cell? ⟨g, o + k * 3, none⟩ = some (.string xs[k].n) ∧ w.cell? ⟨g, o + k * 3 + 1, none⟩ = some (.int .i64 xs[k].t) ∧ w.cell? ⟨g, o + k * 3 + 2, none⟩ = some (.int .i64 xs[k].c) :=
  ⟨hc _ _ (qC_at hk 0 (by decide)), hc _ _ (qC_at hk 1 (by decide)), hc _ _ (qC_at hk 2 (by decide))⟩
theorem r_cells {w : World} {g o : Nat} {xs : List Rc} (hc : ∀ j u, (rC xs)[j]? = some u → w.cell? ⟨g, o + j, none⟩ = some u) {k : Nat} (hk : k < xs.length) :
    w.cell? ⟨g, o + k * 5, none⟩ = some (.string xs[k].n) ∧ w.cell? ⟨g, o + k * 5 + 1, none⟩ = some (.int .i64 xs[k].t) ∧ w.cell? ⟨g, o + k * 5 + 2, none⟩ = some (.int .i64 xs[k].c) ∧ w.cell? ⟨g, o + k * 5 + 3, none⟩ = some (.int .i64 xs[k].l) ∧ w.cell? ⟨g, o + k * 5 + 4, none⟩ = some (.string xs[k].d) :=
  ⟨hc _ _ (rC_at hk 0 (by decide)), hc _ _ (rC_at hk 1 (by decide)), hc _ _ (rC_at hk 2 (by decide)), hc _ _ (rC_at hk 3 (by decide)), hc _ _ (rC_at hk 4 (by decide))⟩

theorem all_no {α : Type} {f : α → Bool} {xs : List α} {k : Nat} (hk : k < xs.length) (h : f xs[k] = false) : few f xs = false := by
  unfold few
  have : xs.all f = false := by
    rw [Bool.eq_false_iff]
    intro h1
    rw [List.all_eq_true] at h1
    have := h1 xs[k] (List.getElem_mem hk)
    rw [h] at this
    simp at this
  rw [this, Bool.and_false]
theorem all_take {α : Type} {f : α → Bool} {xs : List α} {k : Nat} (hk : k < xs.length) (h : (xs.take k).all f = true) (h1 : f xs[k] = true) : (xs.take (k + 1)).all f = true := by
  rw [List.take_succ_eq_append_getElem hk, List.all_append, h]
  simp [h1]

set_option maxRecDepth 20000 in
theorem mayPartQ_any (v : Value) (qs : List Qn) (w : World) (hr : QRow w v qs) :
    Calls Try.prog 76 #[v, .func (.func 77) #[] #[]] w fun e w' => e = .returned (.bool (few mayQ qs)) ∧ Below w.heap.size w w' := by
  obtain ⟨n, hn⟩ : ∃ n, n = qs.length := ⟨_, rfl⟩
  have hmax := hr.2.1
  rw [← hn] at hmax
  unfold maxLen at hmax
  have hb : Below w.heap.size w w := Below.refl _ _
  obtain ⟨R, hR⟩ : ∃ R, R = few mayQ qs := ⟨_, rfl⟩
  have HRR : Hid (R = few mayQ qs) := hR
  have HN : Hid (n = qs.length) := hn
  obtain ⟨x, c, hv⟩ := row_slice hr.1
  rw [← hn] at hv
  subst hv
  have HR : Hid (QRow w (.slice x n c) qs) := hr
  rw [← hR]
  clear hR hr hn
  by_cases h64 : 64 < n
  · have h64' : (64 : Int) < (n : Int) := by omega
    have HF : Hid (R = false) := by unfold Hid; rw [HRR.out]; unfold few; have := HN.out; simp; omega
    go_enter Try.func76, Try.ntmps76
    go_wp2
    go_ret
    exact ⟨ret_bool HF.out.symm, hb⟩
  · have h64' : decide ((64 : Int) < (n : Int)) = false := by simp; omega
    go_enter Try.func76, Try.ntmps76
    go_wp2
    go_loopw [12] (fun i wr => ∃ k : Nat, k ≤ n ∧ i = .int .i64 (k : Int) ∧ Hid ((qs.take k).all mayQ = true) ∧ Below w.heap.size w wr) (fun i _ => n - (intOf i).toNat)
    case atStart => exact ⟨0, Nat.zero_le _, rfl, by unfold Hid; simp, hb⟩
    case round =>
      clear hb
      obtain ⟨k, hk, rfl, HK, hb⟩ := hrel
      by_cases hkn : k < n
      · have hkm : k < qs.length := by have := HN.out; omega
        obtain ⟨g, o, cap, hx, hc⟩ := row_at (HR.out.below hb).1 (by omega)
        simp only [Value.slice.injEq] at hx
        obtain ⟨rfl, -, rfl⟩ := hx
        obtain ⟨d0, d1, d2⟩ := q_cells hc hkm
        have hcall := fun u => mayQuestion_any qs[k] u (HR.out.2.2 _ (List.getElem_mem hkm))
        obtain ⟨q, hq⟩ : ∃ q, q = qs[k] := ⟨_, rfl⟩
        simp only [← hq] at d0 d1 d2 hcall
        obtain ⟨b, hbq⟩ : ∃ b, mayQ q = b := ⟨_, rfl⟩
        rw [hbq] at hcall
        have HB : Hid (mayQ qs[k] = b) := by unfold Hid; rw [← hq]; exact hbq
        obtain ⟨qn, qt, qc⟩ := q
        simp only at d0 d1 d2 hcall
        clear hc hq hbq
        cases b with
        | false =>
          have HF : Hid (R = false) := by unfold Hid; rw [HRR.out]; exact all_no hkm HB.out
          go_wp2_with (go_at_call 77; go_must (refine (hcall _).mono ?_); rintro e w1 ⟨rfl, b1⟩; replace hb := next (lay hb _) b1; clear b1)
          go_ret
          exact ⟨ret_bool HF.out.symm, hb⟩
        | true =>
          have HK2 : Hid ((qs.take (k + 1)).all mayQ = true) := all_take hkm HK.out HB.out
          go_wp2_with (go_at_call 77; go_must (refine (hcall _).mono ?_); rintro e w1 ⟨rfl, b1⟩; replace hb := next (lay hb _) b1; clear b1)
          go_roundw
          case rel => exact ⟨k + 1, by omega, by go_num, HK2, hb⟩
          case measure => simp [intOf]; omega
      · have hkn' : decide (k < n) = false := by simpa using hkn
        have HF : Hid (R = true) := by
          unfold Hid; rw [HRR.out]; unfold few
          have h1 := HK.out
          rw [List.take_of_length_le (by have := HN.out; omega)] at h1
          rw [h1]
          have := HN.out
          simp; omega
        go_wp2
        go_ret
        exact ⟨ret_bool HF.out.symm, hb⟩

set_option maxRecDepth 20000 in
theorem mayPartR_any (v : Value) (qs : List Rc) (w : World) (hr : RRow w v qs) :
    Calls Try.prog 78 #[v, .func (.func 79) #[] #[]] w fun e w' => e = .returned (.bool (few mayR qs)) ∧ Below w.heap.size w w' := by
  obtain ⟨n, hn⟩ : ∃ n, n = qs.length := ⟨_, rfl⟩
  have hmax := hr.2.1
  rw [← hn] at hmax
  unfold maxLen at hmax
  have hb : Below w.heap.size w w := Below.refl _ _
  obtain ⟨R, hR⟩ : ∃ R, R = few mayR qs := ⟨_, rfl⟩
  have HRR : Hid (R = few mayR qs) := hR
  have HN : Hid (n = qs.length) := hn
  obtain ⟨x, c, hv⟩ := row_slice hr.1
  rw [← hn] at hv
  subst hv
  have HR : Hid (RRow w (.slice x n c) qs) := hr
  rw [← hR]
  clear hR hr hn
  by_cases h64 : 64 < n
  · have h64' : (64 : Int) < (n : Int) := by omega
    have HF : Hid (R = false) := by unfold Hid; rw [HRR.out]; unfold few; have := HN.out; simp; omega
    go_enter Try.func78, Try.ntmps78
    go_wp2
    go_ret
    exact ⟨ret_bool HF.out.symm, hb⟩
  · have h64' : decide ((64 : Int) < (n : Int)) = false := by simp; omega
    go_enter Try.func78, Try.ntmps78
    go_wp2
    go_loopw [12] (fun i wr => ∃ k : Nat, k ≤ n ∧ i = .int .i64 (k : Int) ∧ Hid ((qs.take k).all mayR = true) ∧ Below w.heap.size w wr) (fun i _ => n - (intOf i).toNat)
    case atStart => exact ⟨0, Nat.zero_le _, rfl, by unfold Hid; simp, hb⟩
    case round =>
      clear hb
      obtain ⟨k, hk, rfl, HK, hb⟩ := hrel
      by_cases hkn : k < n
      · have hkm : k < qs.length := by have := HN.out; omega
        obtain ⟨g, o, cap, hx, hc⟩ := row_at (HR.out.below hb).1 (by omega)
        simp only [Value.slice.injEq] at hx
        obtain ⟨rfl, -, rfl⟩ := hx
        obtain ⟨d0, d1, d2, d3, d4⟩ := r_cells hc hkm
        have hcall := fun u => mayRecord_any qs[k] u (HR.out.2.2 _ (List.getElem_mem hkm)).1 (HR.out.2.2 _ (List.getElem_mem hkm)).2
        obtain ⟨q, hq⟩ : ∃ q, q = qs[k] := ⟨_, rfl⟩
        simp only [← hq] at d0 d1 d2 d3 d4 hcall
        obtain ⟨b, hbq⟩ : ∃ b, mayR q = b := ⟨_, rfl⟩
        rw [hbq] at hcall
        have HB : Hid (mayR qs[k] = b) := by unfold Hid; rw [← hq]; exact hbq
        obtain ⟨qn, qt, qc, ql, qd⟩ := q
        simp only at d0 d1 d2 d3 d4 hcall
        clear hc hq hbq
        cases b with
        | false =>
          have HF : Hid (R = false) := by unfold Hid; rw [HRR.out]; exact all_no hkm HB.out
          go_wp2_with (go_at_call 79; go_must (refine (hcall _).mono ?_); rintro e w1 ⟨rfl, b1⟩; replace hb := next (lay hb _) b1; clear b1)
          go_ret
          exact ⟨ret_bool HF.out.symm, hb⟩
        | true =>
          have HK2 : Hid ((qs.take (k + 1)).all mayR = true) := all_take hkm HK.out HB.out
          go_wp2_with (go_at_call 79; go_must (refine (hcall _).mono ?_); rintro e w1 ⟨rfl, b1⟩; replace hb := next (lay hb _) b1; clear b1)
          go_roundw
          case rel => exact ⟨k + 1, by omega, by go_num, HK2, hb⟩
          case measure => simp [intOf]; omega
      · have hkn' : decide (k < n) = false := by simpa using hkn
        have HF : Hid (R = true) := by
          unfold Hid; rw [HRR.out]; unfold few
          have h1 := HK.out
          rw [List.take_of_length_le (by have := HN.out; omega)] at h1
          rw [h1]
          have := HN.out
          simp; omega
        go_wp2
        go_ret
        exact ⟨ret_bool HF.out.symm, hb⟩

set_option maxRecDepth 20000 in
/-- What mayParts gives. -/
theorem mayParts_any (HV : Array Value) (id : Int) (qr : Bool) (op : Int) (aa tc rd ra : Bool) (z rc : Int) (v0 v1 v2 v3 : Value) (qs : List Qn) (an ns ar : List Rc) (w : World) (h0 : QRow w v0 qs) (h1 : RRow w v1 an) (h2 : RRow w v2 ns) (h3 : RRow w v3 ar)
    (hH : HV = #[.int .i64 id, .bool qr, .int .i64 op, .bool aa, .bool tc, .bool rd, .bool ra, .int .i64 z, .int .i64 rc, v0, v1, v2, v3]) :
    Calls Try.prog 57 #[.agg HV] w fun e w' => e = .returned (.bool (few mayQ qs && few mayR an && few mayR ns && few mayR ar)) ∧ Below w.heap.size w w' := by
  subst hH
  obtain ⟨b0, e0⟩ : ∃ b, few mayQ qs = b := ⟨_, rfl⟩
  obtain ⟨b1, e1⟩ : ∃ b, few mayR an = b := ⟨_, rfl⟩
  obtain ⟨b2, e2⟩ : ∃ b, few mayR ns = b := ⟨_, rfl⟩
  obtain ⟨b3, e3⟩ : ∃ b, few mayR ar = b := ⟨_, rfl⟩
  rw [e0, e1, e2, e3]
  obtain ⟨x0, c0, rfl⟩ := row_slice h0.1
  obtain ⟨x1, c1, rfl⟩ := row_slice h1.1
  obtain ⟨x2, c2, rfl⟩ := row_slice h2.1
  obtain ⟨x3, c3, rfl⟩ := row_slice h3.1
  have hb : Below w.heap.size w w := Below.refl _ _
  have H0 : Hid (QRow w (.slice x0 qs.length c0) qs) := h0
  have H1 : Hid (RRow w (.slice x1 an.length c1) an) := h1
  have H2 : Hid (RRow w (.slice x2 ns.length c2) ns) := h2
  have H3 : Hid (RRow w (.slice x3 ar.length c3) ar) := h3
  have K0 : ∀ u, Hid (Below w.heap.size w u) → Calls Try.prog 76 #[.slice x0 qs.length c0, .func (.func 77) #[] #[]] u fun e w' => e = .returned (.bool b0) ∧ Below u.heap.size u w' := fun u hu => by rw [← e0]; exact mayPartQ_any _ qs u (H0.out.below hu.out)
  have K1 : ∀ u, Hid (Below w.heap.size w u) → Calls Try.prog 78 #[.slice x1 an.length c1, .func (.func 79) #[] #[]] u fun e w' => e = .returned (.bool b1) ∧ Below u.heap.size u w' := fun u hu => by rw [← e1]; exact mayPartR_any _ an u (H1.out.below hu.out)
  have K2 : ∀ u, Hid (Below w.heap.size w u) → Calls Try.prog 78 #[.slice x2 ns.length c2, .func (.func 79) #[] #[]] u fun e w' => e = .returned (.bool b2) ∧ Below u.heap.size u w' := fun u hu => by rw [← e2]; exact mayPartR_any _ ns u (H2.out.below hu.out)
  have K3 : ∀ u, Hid (Below w.heap.size w u) → Calls Try.prog 78 #[.slice x3 ar.length c3, .func (.func 79) #[] #[]] u fun e w' => e = .returned (.bool b3) ∧ Below u.heap.size u w' := fun u hu => by rw [← e3]; exact mayPartR_any _ ar u (H3.out.below hu.out)
  have KB := Blk.new w #[.int .i64 id, .bool qr, .int .i64 op, .bool aa, .bool tc, .bool rd, .bool ra, .int .i64 z, .int .i64 rc, .slice x0 qs.length c0, .slice x1 an.length c1, .slice x2 ns.length c2, .slice x3 ar.length c3] 29
  have f9 := KB.cell 9
  have f10 := KB.cell 10
  have f11 := KB.cell 11
  have f12 := KB.cell 12
  have t1 : True := trivial
  have t2 : True := trivial
  clear h0 h1 h2 h3 e0 e1 e2 e3 H0 H1 H2 H3
  cases b0 with
  | false =>
    go_enter Try.func57, Try.ntmps57
    go_wp2_with (go_at_call 76; go_must (refine (K0 _ (lay hb _)).mono ?_); rintro e w1 ⟨rfl, b1⟩; replace hb := next (lay hb _) b1)
    go_ret
    exact ⟨rfl, hb⟩
  | true =>
    cases b1 with
    | false =>
      go_enter Try.func57, Try.ntmps57
      go_wp2_with (first
        | (go_at_call 76; go_must (refine (K0 _ (lay hb _)).mono ?_); rintro e w1 ⟨rfl, b1⟩; replace hb := next (lay hb _) b1; replace KB := KB.below b1; clear f9 f10 f11 f12; have f10 := KB.cell 10; have f11 := KB.cell 11; have f12 := KB.cell 12; clear b1)
        | (go_at_call 78; go_must (refine (K1 _ hb).mono ?_); rintro e w2 ⟨rfl, b1⟩; replace hb := next hb b1; replace KB := KB.below b1; clear f10 f11 f12; have f11 := KB.cell 11; have f12 := KB.cell 12; clear b1))
      go_ret
      exact ⟨rfl, hb⟩
    | true =>
      cases b2 with
      | false =>
        go_enter Try.func57, Try.ntmps57
        go_wp2_with (first
          | (go_at_call 76; go_must (refine (K0 _ (lay hb _)).mono ?_); rintro e w1 ⟨rfl, b1⟩; replace hb := next (lay hb _) b1; replace KB := KB.below b1; clear f9 f10 f11 f12; have f10 := KB.cell 10; have f11 := KB.cell 11; have f12 := KB.cell 12; clear b1)
          | (go_at_call 78; have _t := t1; go_must (refine (K1 _ hb).mono ?_); rintro e w2 ⟨rfl, b1⟩; replace hb := next hb b1; replace KB := KB.below b1; clear f10 f11 f12; have f11 := KB.cell 11; have f12 := KB.cell 12; clear b1; clear t1 _t)
          | (go_at_call 78; go_must (refine (K2 _ hb).mono ?_); rintro e w3 ⟨rfl, b1⟩; replace hb := next hb b1; replace KB := KB.below b1; clear f11 f12; have f12 := KB.cell 12; clear b1))
        go_ret
        exact ⟨rfl, hb⟩
      | true =>
        go_enter Try.func57, Try.ntmps57
        go_wp2_with (first
          | (go_at_call 76; go_must (refine (K0 _ (lay hb _)).mono ?_); rintro e w1 ⟨rfl, b1⟩; replace hb := next (lay hb _) b1; replace KB := KB.below b1; clear f9 f10 f11 f12; have f10 := KB.cell 10; have f11 := KB.cell 11; have f12 := KB.cell 12; clear b1)
          | (go_at_call 78; have _t := t1; go_must (refine (K1 _ hb).mono ?_); rintro e w2 ⟨rfl, b1⟩; replace hb := next hb b1; replace KB := KB.below b1; clear f10 f11 f12; have f11 := KB.cell 11; have f12 := KB.cell 12; clear b1; clear t1 _t)
          | (go_at_call 78; have _t := t2; go_must (refine (K2 _ hb).mono ?_); rintro e w3 ⟨rfl, b1⟩; replace hb := next hb b1; replace KB := KB.below b1; clear f11 f12; have f12 := KB.cell 12; clear b1; clear t2 _t)
          | (go_at_call 78; go_must (refine (K3 _ hb).mono ?_); rintro e w4 ⟨rfl, b1⟩; replace hb := next hb b1; replace KB := KB.below b1; clear f12; skip; clear b1))
        go_ret
        exact ⟨ret_bool (by simp), hb⟩

end Go.Proofs.Ytcapankhobnfeaa

/- The writer of package wire: what note, raw, name, question and record leave. -/
namespace Go.Proofs.Ytcapankhobnfeaa
open Go.RowKit
open Pl

/-- Rows of other types than a writer's lie as they lay. -/
def Bes (w w' : World) : Prop := ∀ (k : Nat) (c : Array Value) (t : TypeId) (f : Nat × Nat), w.heap[k]? = some (Obj.cells c t f) → t ≠ 5 → t ≠ 140 → t ≠ 112 → w'.heap[k]? = some (Obj.cells c t f)
theorem Bes.refl (w : World) : Bes w w := fun _ _ _ _ h _ _ _ => h
theorem Bes.trans {a b c : World} (h : Bes a b) (k : Bes b c) : Bes a c := fun i x t f hi h1 h2 h3 => k i x t f (h i x t f hi h1 h2 h3) h1 h2 h3
theorem Bes.of_beside {a b : World} (h : Beside a b) : Bes a b := fun i x t f hi h1 h2 _ => h i x t f hi h1 h2
theorem Bes.of_below {w w' : World} (h : Below w.heap.size w w') : Bes w w' := Bes.of_beside (Beside.of_below h)
theorem Bes.blk {w w' : World} {g : Nat} {C : Array Value} {t : TypeId} (h : Bes w w') (hb : Blk w g C t) (h1 : t ≠ 5) (h2 : t ≠ 140) (h3 : t ≠ 112) : Blk w' g C t := h g C t (0, 0) hb h1 h2 h3

/-- At g lies a writer over the Writer at h. -/
def WH (w0 w : World) (g h : Nat) (B : List UInt8) (ms : Marks) (f : Bool) : Prop := Blk w g #[.pointer (some ⟨h, 0, none⟩), .bool f] 112 ∧ w0.heap.size ≤ g ∧ Holds w0 w h B ms
/-- .. that stands as o says. -/
def WO (w0 w : World) (g h : Nat) (o : Option St) : Prop := ∃ B ms f, WH w0 w g h B ms f ∧ ((f = false ∧ o = some (B, ms)) ∨ (f = true ∧ o = none))
theorem WO.below {w0 w w' : World} {g h : Nat} {o : Option St} (a : WO w0 w g h o) (hb : Below w.heap.size w w') : WO w0 w' g h o := by
  obtain ⟨B, ms, f, ⟨h1, h2, h3⟩, h4⟩ := a
  exact ⟨B, ms, f, ⟨h1.below hb, h2, h3.below hb⟩, h4⟩
theorem WO.out {w0 w : World} {g h : Nat} {o : Option St} (a : WO w0 w g h o) : Below w0.heap.size w0 w := by
  obtain ⟨B, ms, f, ⟨h1, h2, h3⟩, h4⟩ := a
  exact h3.out

/-- The mark of a writer is set. -/
theorem WH.set {w0 w : World} {g h : Nat} {B : List UInt8} {ms : Marks} {f : Bool} (a : WH w0 w g h B ms f) : WH w0 (w.setCell ⟨g, 1, none⟩ (.bool true)) g h B ms true ∧ Bes w (w.setCell ⟨g, 1, none⟩ (.bool true)) := by
  obtain ⟨h1, h2, u, m, a1, a2, a3, a4⟩ := a
  have hne : ∀ k, own h u m k → k ≠ g := fun k hk e => by
    subst e
    exact a1.apart h1 (by decide) (by decide) hk
  refine ⟨⟨h1.set 1 _, h2, u, m, a1.turn (S := fun k => k = g) (Turn.of_set (S := fun k => k = g) w (p := ⟨g, 1, none⟩) rfl _) (fun k hk => hne k hk), a2, a3, a4.setCell h2 _⟩, fun k c t f hk _ _ h5 => ?_⟩
  rw [heap_setCell_other w ⟨g, 1, none⟩ k _ (fun e => ?_)]
  · exact hk
  · subst e
    unfold Blk at h1
    rw [hk] at h1
    simp at h1
    exact h5 h1.2.1

theorem note_any {w0 w : World} {g h : Nat} {B : List UInt8} {ms : Marks} {f : Bool} (E : Int) (a : WH w0 w g h B ms f) :
    Calls Try.prog 80 #[.pointer (some ⟨g, 0, none⟩), .int .i64 E] w fun e w' => e = .returned (.tuple #[]) ∧ WH w0 w' g h B ms (f || !(E == 0)) ∧ Bes w w' := by
  have f1 := a.1.frozen 1
  have c1 : w.cell? ⟨g, 1, none⟩ = some (.bool f) := a.1.cell 1
  have HA : Hid (WH w0 w g h B ms f) := a
  clear a
  by_cases hE : E = 0
  · subst hE
    go_enter Try.func80, Try.ntmps80
    go_wp2
    go_end0
    exact ⟨rfl, by simpa using HA.out, Bes.refl _⟩
  · have hE' : (E == 0) = false := by simpa using hE
    go_enter Try.func80, Try.ntmps80
    go_wp2
    go_end0
    obtain ⟨b1, b2⟩ := HA.out.set
    exact ⟨rfl, by rw [hE', Bool.not_false, Bool.or_true]; exact b1, b2⟩

theorem WH.beside {w0 w w' : World} {g h : Nat} {B B' : List UInt8} {ms ms' : Marks} {f : Bool} (a : WH w0 w g h B ms f) (hb : Beside w w') (hh : Holds w0 w' h B' ms') : WH w0 w' g h B' ms' f :=
  ⟨hb g _ _ _ a.1 (by decide) (by decide), a.2.1, hh⟩
theorem WO.of_raw {w0 w : World} {g h : Nat} {B : List UInt8} {ms : Marks} {f : Bool} {o : Option St} {s : ByteArray} (ho : (f = false ∧ o = some (B, ms)) ∨ (f = true ∧ o = none)) (a : WH w0 w g h (rawB B s) ms (f || !(rawE B s == 0))) : WO w0 w g h (o.bind fun x => stR x s) := by
  refine ⟨_, _, _, a, ?_⟩
  rcases ho with ⟨rfl, rfl⟩ | ⟨rfl, rfl⟩
  · simp only [Option.bind_some, stR, Bool.false_or]
    by_cases h1 : rawE B s = 0
    · rw [if_pos h1, h1]; exact .inl ⟨rfl, rfl⟩
    · rw [if_neg h1]; exact .inr ⟨by simpa using h1, rfl⟩
  · exact .inr ⟨rfl, rfl⟩
theorem WO.of_name {w0 w : World} {g h : Nat} {B : List UInt8} {ms : Marks} {f : Bool} {o : Option St} {s : ByteArray} (ho : (f = false ∧ o = some (B, ms)) ∨ (f = true ∧ o = none)) (a : WH w0 w g h (namB B ms s.data.toList) (namM B ms s.data.toList) (f || !(namE B ms s.data.toList == 0))) : WO w0 w g h (o.bind fun x => stN x s) := by
  refine ⟨_, _, _, a, ?_⟩
  rcases ho with ⟨rfl, rfl⟩ | ⟨rfl, rfl⟩
  · simp only [Option.bind_some, stN, Bool.false_or]
    by_cases h1 : namE B ms s.data.toList = 0
    · rw [if_pos h1, h1]; exact .inl ⟨rfl, rfl⟩
    · rw [if_neg h1]; exact .inr ⟨by simpa using h1, rfl⟩
  · exact .inr ⟨rfl, rfl⟩

theorem wraw_any {w0 w : World} {g h : Nat} {o : Option St} (s : ByteArray) (hs : s.size ≤ maxLen) (a : WO w0 w g h o) :
    Calls Try.prog 59 #[.pointer (some ⟨g, 0, none⟩), .string s] w fun e w' => e = .returned (.tuple #[]) ∧ WO w0 w' g h (o.bind fun x => stR x s) ∧ Bes w w' := by
  obtain ⟨B, ms, f, a1, ho⟩ := a
  have c0 : w.cell? ⟨g, 0, none⟩ = some (.pointer (some ⟨h, 0, none⟩)) := a1.1.cell 0
  have HA : Hid (WH w0 w g h B ms f) := a1
  have HO : Hid ((f = false ∧ o = some (B, ms)) ∨ (f = true ∧ o = none)) := ho
  clear a1 ho
  go_enter Try.func59, Try.ntmps59
  go_wp2_with (first
    | (go_at_call 81; go_must (refine (raw_h s hs HA.out.2.2).mono ?_); rintro e w1 ⟨rfl, h1, b1⟩; have H1 : Hid (WH w0 w1 g h (rawB B s) ms f) := HA.out.beside b1 h1; have B1 : Hid (Bes w w1) := Bes.of_beside b1; clear h1 b1)
    | (go_at_call 80; go_must (refine (note_any _ H1.out).mono ?_); rintro e w2 ⟨rfl, h2, b2⟩; have H2 : Hid (WH w0 w2 g h (rawB B s) ms (f || !(rawE B s == 0))) := h2; have B2 : Hid (Bes w w2) := B1.out.trans b2; clear h2 b2))
  go_end0
  exact ⟨rfl, WO.of_raw HO.out H2.out, B2.out⟩
theorem wnam_any {w0 w : World} {g h : Nat} {o : Option St} (s : ByteArray) (hs : s.size ≤ maxLen) (a : WO w0 w g h o) :
    Calls Try.prog 82 #[.pointer (some ⟨g, 0, none⟩), .string s] w fun e w' => e = .returned (.tuple #[]) ∧ WO w0 w' g h (o.bind fun x => stN x s) ∧ Bes w w' := by
  obtain ⟨B, ms, f, a1, ho⟩ := a
  have c0 : w.cell? ⟨g, 0, none⟩ = some (.pointer (some ⟨h, 0, none⟩)) := a1.1.cell 0
  have HA : Hid (WH w0 w g h B ms f) := a1
  have HO : Hid ((f = false ∧ o = some (B, ms)) ∨ (f = true ∧ o = none)) := ho
  clear a1 ho
  go_enter Try.func82, Try.ntmps82
  go_wp2_with (first
    | (go_at_call 97; go_must (refine (name_h s hs HA.out.2.2).mono ?_); rintro e w1 ⟨rfl, h1, b1⟩; have H1 : Hid (WH w0 w1 g h (namB B ms s.data.toList) (namM B ms s.data.toList) f) := HA.out.beside b1 h1; have B1 : Hid (Bes w w1) := Bes.of_beside b1; clear h1 b1)
    | (go_at_call 80; go_must (refine (note_any _ H1.out).mono ?_); rintro e w2 ⟨rfl, h2, b2⟩; have H2 : Hid (WH w0 w2 g h (namB B ms s.data.toList) (namM B ms s.data.toList) (f || !(namE B ms s.data.toList == 0))) := h2; have B2 : Hid (Bes w w2) := B1.out.trans b2; clear h2 b2))
  go_end0
  exact ⟨rfl, WO.of_name HO.out H2.out, B2.out⟩

set_option maxRecDepth 20000 in
set_option maxHeartbeats 1000000 in
theorem wquestion_any {w0 w : World} {g h : Nat} {o : Option St} (q : Qn) (hs : q.n.size ≤ maxLen) (a : WO w0 w g h o) :
    Calls Try.prog 61 #[.pointer (some ⟨g, 0, none⟩), .agg #[.string q.n, .int .i64 q.t, .int .i64 q.c]] w fun e w' => e = .returned (.tuple #[]) ∧ WO w0 w' g h (o.bind fun x => stQ x q) ∧ Bes w w' := by
  obtain ⟨n, t, c⟩ := q
  simp only at hs ⊢
  have HA : Hid (WO w0 w g h o) := a
  have KB := Blk.new w #[.string n, .int .i64 t, .int .i64 c] 46
  have z : (be2 t).size + (be2 c).size ≤ 1000 := by rw [size2, size2]; decide
  have HZ : Hid ((be2 t ++ be2 c).size ≤ maxLen) := by unfold Hid maxLen; rw [ByteArray.size_append]; simp [size2]
  obtain ⟨X, hX⟩ : ∃ X, X = be2 t := ⟨_, rfl⟩
  obtain ⟨Y, hY⟩ : ∃ Y, Y = be2 c := ⟨_, rfl⟩
  have HF : Hid (((o.bind fun x => stN x n).bind fun x => stR x (X ++ Y)) = o.bind fun x => stQ x ⟨n, t, c⟩) := by
    unfold Hid; rw [hX, hY, Option.bind_assoc]; rfl
  have k1 := fun u => put16_any t u
  have k2 := fun u => put16_any c u
  rw [← hX] at k1 z HZ
  rw [← hY] at k2 z HZ
  have zz : ∀ u : World, (Op.stringOp .add X Y).run Try.prog u = .ok (.string (X ++ Y)) u := fun u => run_string_add_sum u X Y (by omega)
  clear a hX hY
  have t1 : True := trivial
  go_enter Try.func61, Try.ntmps61
  go_wp2_with (go_at_call 82; go_must (refine (wnam_any n hs (HA.out.below (lay (Below.refl _ _) _))).mono ?_); rintro e w1 ⟨rfl, h1, b1⟩; have H1 : Hid (WO w0 w1 g h (o.bind fun x => stN x n)) := h1; have B1 : Hid (Bes w w1) := (Bes.of_below (lay (Below.refl _ _) _)).trans b1; replace KB := b1.blk KB (by decide) (by decide) (by decide); have c1 : w1.cell? ⟨w.heap.size, 1, none⟩ = some (.int .i64 t) := KB.cell 1; have c2 : w1.cell? ⟨w.heap.size, 2, none⟩ = some (.int .i64 c) := KB.cell 2; clear h1 b1)
  go_region_held3 (fun u => u.cell? ⟨w.heap.size, 1, none⟩ = some (.int .i64 t) ∧ u.cell? ⟨w.heap.size, 2, none⟩ = some (.int .i64 c)) (first | (simp only [World.cell?_drew, c1, c2, and_self]; done))
    (first
      | (go_at_call 74; have _t := t1; refine (k1 _).mono ?_; rintro e w2 ⟨rfl, b2⟩; replace b2 := next (Below.refl _ _).drew b2; have KB2 := KB.below b2; have c1 : w2.cell? ⟨w.heap.size, 1, none⟩ = some (.int .i64 t) := KB2.cell 1; have c2 : w2.cell? ⟨w.heap.size, 2, none⟩ = some (.int .i64 c) := KB2.cell 2; clear _t t1)
      | (go_at_call 74; refine (k2 _).mono ?_; rintro e w3 ⟨rfl, b3⟩; replace b3 := next b2 b3; have KB3 := KB.below b3; have c1 : w3.cell? ⟨w.heap.size, 1, none⟩ = some (.int .i64 t) := KB3.cell 1; have c2 : w3.cell? ⟨w.heap.size, 2, none⟩ = some (.int .i64 c) := KB3.cell 2)
      | (go_at_call 59; refine (wraw_any _ HZ.out (H1.out.below b3)).mono ?_; rintro e w4 ⟨rfl, h4, b4⟩; have H4 : Hid (WO w0 w4 g h ((o.bind fun x => stN x n).bind fun x => stR x (X ++ Y))) := h4; have B4 : Hid (Bes w w4) := (B1.out.trans (Bes.of_below b3)).trans b4; have KB4 := b4.blk KB3 (by decide) (by decide) (by decide); have c1 : w4.cell? ⟨w.heap.size, 1, none⟩ = some (.int .i64 t) := KB4.cell 1; have c2 : w4.cell? ⟨w.heap.size, 2, none⟩ = some (.int .i64 c) := KB4.cell 2; clear h4 b4))
  go_wp2
  go_end0
  exact ⟨rfl, by rw [← HF.out]; exact H4.out, B4.out⟩

/-- Bytes in two parts. -/
theorem stR_two (x : St) (a b : ByteArray) : stR x (a ++ b) = (stR x a).bind fun y => stR y b := by
  unfold stR rawE rawB
  rw [ByteArray.size_append]
  by_cases h1 : x.1.length + a.size ≤ 4096
  · rw [if_pos h1, if_pos h1, if_pos rfl]
    simp only [Option.bind_some]
    rw [List.length_append, data_len]
    by_cases h2 : x.1.length + (a.size + b.size) ≤ 4096
    · rw [if_pos h2, if_pos h2, if_pos (by omega), if_pos (by omega), if_pos (by omega), app_list, List.append_assoc]
    · rw [if_neg h2, if_neg (by omega)]; simp; omega
  · rw [if_neg h1, if_neg (by omega)]; simp

set_option maxRecDepth 20000 in
set_option maxHeartbeats 2000000 in
theorem wrecord_any {w0 w : World} {g h : Nat} {o : Option St} (r : Rc) (hs : r.n.size ≤ maxLen) (hd : r.d.size ≤ maxLen) (a : WO w0 w g h o) :
    Calls Try.prog 63 #[.pointer (some ⟨g, 0, none⟩), .agg #[.string r.n, .int .i64 r.t, .int .i64 r.c, .int .i64 r.l, .string r.d]] w fun e w' => e = .returned (.tuple #[]) ∧ WO w0 w' g h (o.bind fun x => stC x r) ∧ Bes w w' := by
  obtain ⟨n, t, c, l, d⟩ := r
  simp only at hs hd ⊢
  have HA : Hid (WO w0 w g h o) := a
  have KB := Blk.new w #[.string n, .int .i64 t, .int .i64 c, .int .i64 l, .string d] 54
  obtain ⟨X, hX⟩ : ∃ X, X = be2 t := ⟨_, rfl⟩
  obtain ⟨Y, hY⟩ : ∃ Y, Y = be2 c := ⟨_, rfl⟩
  obtain ⟨Z, hZ⟩ : ∃ Z, Z = be4 l := ⟨_, rfl⟩
  obtain ⟨U, hU⟩ : ∃ U, U = be2 (d.size : Int) := ⟨_, rfl⟩
  have sX : X.size = 2 := by rw [hX]; rfl
  have sY : Y.size = 2 := by rw [hY]; rfl
  have sZ : Z.size = 4 := by rw [hZ]; rfl
  have sU : U.size = 2 := by rw [hU]; rfl
  have HF : Hid ((((o.bind fun x => stN x n).bind fun x => stR x (X ++ Y ++ Z ++ U)).bind fun x => stR x d) = o.bind fun x => stC x ⟨n, t, c, l, d⟩) := by
    unfold Hid
    rw [Option.bind_assoc, Option.bind_assoc]
    refine congrArg (Option.bind o) (funext fun x => ?_)
    unfold stC rB
    refine congrArg (Option.bind _) (funext fun y => ?_)
    simp only
    rw [stR_two _ (be2 t ++ be2 c ++ be4 l ++ be2 (d.size : Int)) d, hX, hY, hZ, hU]
  have HZ : Hid ((X ++ Y ++ Z ++ U).size ≤ maxLen) := by unfold Hid maxLen; simp only [ByteArray.size_append]; omega
  have k1 := fun u => put16_any t u
  have k2 := fun u => put16_any c u
  have k3 := fun u => put32_any l u
  have k4 := fun u => put16_any (d.size : Int) u
  rw [← hX] at k1
  rw [← hY] at k2
  rw [← hZ] at k3
  rw [← hU] at k4
  have z1 : ∀ u : World, (Op.stringOp .add X Y).run Try.prog u = .ok (.string (X ++ Y)) u := fun u => run_string_add_sum u X Y (by omega)
  have z2 : ∀ u : World, (Op.stringOp .add (X ++ Y) Z).run Try.prog u = .ok (.string (X ++ Y ++ Z)) u := fun u => run_string_add_sum u _ Z (by rw [ByteArray.size_append]; omega)
  have z3 : ∀ u : World, (Op.stringOp .add (X ++ Y ++ Z) U).run Try.prog u = .ok (.string (X ++ Y ++ Z ++ U)) u := fun u => run_string_add_sum u _ U (by rw [ByteArray.size_append, ByteArray.size_append]; omega)
  clear a hX hY hZ hU sX sY sZ sU
  have t1 : True := trivial
  have t2 : True := trivial
  have hd := hd
  unfold maxLen at hd
  go_enter Try.func63, Try.ntmps63
  go_wp2_with (go_at_call 82; go_must (refine (wnam_any n hs (HA.out.below (lay (Below.refl _ _) _))).mono ?_); rintro e w1 ⟨rfl, h1, b1⟩; have H1 : Hid (WO w0 w1 g h (o.bind fun x => stN x n)) := h1; have B1 : Hid (Bes w w1) := (Bes.of_below (lay (Below.refl _ _) _)).trans b1; replace KB := b1.blk KB (by decide) (by decide) (by decide); have c1 : w1.cell? ⟨w.heap.size, 1, none⟩ = some (.int .i64 t) := KB.cell 1; have c2 : w1.cell? ⟨w.heap.size, 2, none⟩ = some (.int .i64 c) := KB.cell 2; have c3 : w1.cell? ⟨w.heap.size, 3, none⟩ = some (.int .i64 l) := KB.cell 3; have c4 : w1.cell? ⟨w.heap.size, 4, none⟩ = some (.string d) := KB.cell 4; clear h1 b1)
  go_region_held3 (fun u => u.cell? ⟨w.heap.size, 1, none⟩ = some (.int .i64 t) ∧ u.cell? ⟨w.heap.size, 2, none⟩ = some (.int .i64 c) ∧ u.cell? ⟨w.heap.size, 3, none⟩ = some (.int .i64 l) ∧ u.cell? ⟨w.heap.size, 4, none⟩ = some (.string d)) (first | (simp only [World.cell?_drew, c1, c2, c3, c4, and_self]; done))
    (first
      | (go_at_call 74; have _t := t1; refine (k1 _).mono ?_; rintro e w2 ⟨rfl, b2⟩; replace b2 := next (Below.refl _ _).drew b2; have KB2 := KB.below b2; have c1 : w2.cell? ⟨w.heap.size, 1, none⟩ = some (.int .i64 t) := KB2.cell 1; have c2 : w2.cell? ⟨w.heap.size, 2, none⟩ = some (.int .i64 c) := KB2.cell 2; have c3 : w2.cell? ⟨w.heap.size, 3, none⟩ = some (.int .i64 l) := KB2.cell 3; have c4 : w2.cell? ⟨w.heap.size, 4, none⟩ = some (.string d) := KB2.cell 4; clear _t t1)
      | (go_at_call 74; have _t := t2; refine (k2 _).mono ?_; rintro e w3 ⟨rfl, b3⟩; replace b3 := next b2 b3; have KB3 := KB.below b3; have c1 : w3.cell? ⟨w.heap.size, 1, none⟩ = some (.int .i64 t) := KB3.cell 1; have c2 : w3.cell? ⟨w.heap.size, 2, none⟩ = some (.int .i64 c) := KB3.cell 2; have c3 : w3.cell? ⟨w.heap.size, 3, none⟩ = some (.int .i64 l) := KB3.cell 3; have c4 : w3.cell? ⟨w.heap.size, 4, none⟩ = some (.string d) := KB3.cell 4; clear _t t2)
      | (go_at_call 83; refine (k3 _).mono ?_; rintro e w4 ⟨rfl, b4⟩; replace b4 := next b3 b4; have KB4 := KB.below b4; have c1 : w4.cell? ⟨w.heap.size, 1, none⟩ = some (.int .i64 t) := KB4.cell 1; have c2 : w4.cell? ⟨w.heap.size, 2, none⟩ = some (.int .i64 c) := KB4.cell 2; have c3 : w4.cell? ⟨w.heap.size, 3, none⟩ = some (.int .i64 l) := KB4.cell 3; have c4 : w4.cell? ⟨w.heap.size, 4, none⟩ = some (.string d) := KB4.cell 4)
      | (go_at_call 74; refine (k4 _).mono ?_; rintro e w5 ⟨rfl, b5⟩; replace b5 := next b4 b5; have KB5 := KB.below b5; have c1 : w5.cell? ⟨w.heap.size, 1, none⟩ = some (.int .i64 t) := KB5.cell 1; have c2 : w5.cell? ⟨w.heap.size, 2, none⟩ = some (.int .i64 c) := KB5.cell 2; have c3 : w5.cell? ⟨w.heap.size, 3, none⟩ = some (.int .i64 l) := KB5.cell 3; have c4 : w5.cell? ⟨w.heap.size, 4, none⟩ = some (.string d) := KB5.cell 4)
      | (go_at_call 59; refine (wraw_any _ HZ.out (H1.out.below b5)).mono ?_; rintro e w6 ⟨rfl, h6, b6⟩; have H6 : Hid (WO w0 w6 g h ((o.bind fun x => stN x n).bind fun x => stR x (X ++ Y ++ Z ++ U))) := h6; have B6 : Hid (Bes w w6) := (B1.out.trans (Bes.of_below b5)).trans b6; have KB6 := b6.blk KB5 (by decide) (by decide) (by decide); have c1 : w6.cell? ⟨w.heap.size, 1, none⟩ = some (.int .i64 t) := KB6.cell 1; have c2 : w6.cell? ⟨w.heap.size, 2, none⟩ = some (.int .i64 c) := KB6.cell 2; have c3 : w6.cell? ⟨w.heap.size, 3, none⟩ = some (.int .i64 l) := KB6.cell 3; have c4 : w6.cell? ⟨w.heap.size, 4, none⟩ = some (.string d) := KB6.cell 4; clear h6 b6))
  go_wp2_with (go_at_call 59; go_must (refine (wraw_any d hd H6.out).mono ?_); rintro e w7 ⟨rfl, h7, b7⟩; have H7 : Hid (WO w0 w7 g h (((o.bind fun x => stN x n).bind fun x => stR x (X ++ Y ++ Z ++ U)).bind fun x => stR x d)) := h7; have B7 : Hid (Bes w w7) := B6.out.trans b7; clear h7 b7)
  go_end0
  exact ⟨rfl, by rw [← HF.out]; exact H7.out, B7.out⟩

end Go.Proofs.Ytcapankhobnfeaa

/- What putPart and Put of package wire give. -/
namespace Go.Proofs.Ytcapankhobnfeaa
open Go.RowKit
open Pl

set_option maxRecDepth 20000 in
theorem putPartQ_any {w0 w : World} {g h : Nat} {o : Option St} (v : Value) (qs : List Qn) (hr : QRow w0 v qs) (a : WO w0 w g h o) :
    Calls Try.prog 60 #[.pointer (some ⟨g, 0, none⟩), v, .func (.func 61) #[] #[]] w fun e w' => e = .returned (.tuple #[]) ∧ WO w0 w' g h (stAll stQ o qs) ∧ Bes w w' := by
  obtain ⟨n, hn⟩ : ∃ n, n = qs.length := ⟨_, rfl⟩
  have hmax := hr.2.1
  rw [← hn] at hmax
  unfold maxLen at hmax
  have HN : Hid (n = qs.length) := hn
  obtain ⟨x, c, hv⟩ := row_slice hr.1
  rw [← hn] at hv
  subst hv
  have HR : Hid (QRow w0 (.slice x n c) qs) := hr
  have HA : Hid (WO w0 w g h o) := a
  clear hr hn a
  go_enter Try.func60, Try.ntmps60
  go_wp2
  go_loopw [10] (fun i wr => ∃ k : Nat, k ≤ n ∧ i = .int .i64 (k : Int) ∧ Hid (WO w0 wr g h (stAll stQ o (qs.take k)) ∧ Bes w wr)) (fun i _ => n - (intOf i).toNat)
  case atStart => exact ⟨0, Nat.zero_le _, rfl, HA.out, Bes.refl _⟩
  case round =>
    clear HA
    obtain ⟨k, hk, rfl, HK⟩ := hrel
    by_cases hkn : k < n
    · have hkm : k < qs.length := by have := HN.out; omega
      obtain ⟨gr, or, cap, hx, hc⟩ := row_at (HR.out.below HK.out.1.out).1 (by omega)
      simp only [Value.slice.injEq] at hx
      obtain ⟨rfl, -, rfl⟩ := hx
      obtain ⟨d0, d1, d2⟩ := q_cells hc hkm
      have hsz := HR.out.2.2 _ (List.getElem_mem hkm)
      have HS : Hid (stAll stQ o (qs.take (k + 1)) = (stAll stQ o (qs.take k)).bind fun a => stQ a qs[k]) := stAll_snoc _ _ _ _ hkm
      obtain ⟨q, hq⟩ : ∃ q, q = qs[k] := ⟨_, rfl⟩
      simp only [← hq] at d0 d1 d2 HS hsz
      have hcall := fun (u : World) (hu : WO w0 u g h (stAll stQ o (qs.take k))) => wquestion_any q hsz hu
      obtain ⟨qn, qt, qc⟩ := q
      simp only at d0 d1 d2 hcall
      clear hc hq hsz
      go_wp2_with (go_at_call 61; go_must (refine (hcall _ (HK.out.1.below (lay (Below.refl _ _) _))).mono ?_); rintro e w1 ⟨rfl, h1, b1⟩; have H1 : Hid (WO w0 w1 g h (stAll stQ o (qs.take (k + 1))) ∧ Bes w w1) := ⟨(by rw [HS.out]; exact h1), (HK.out.2.trans (Bes.of_below (lay (Below.refl _ _) _))).trans b1⟩; clear h1 b1)
      go_roundw
      case rel => exact ⟨k + 1, by omega, by go_num, H1⟩
      case measure => simp [intOf]; omega
    · have hkn' : decide (k < n) = false := by simpa using hkn
      go_wp2
      go_end0
      obtain ⟨h1, h2⟩ := HK.out
      rw [List.take_of_length_le (by have := HN.out; omega)] at h1
      exact ⟨rfl, h1, h2⟩

set_option maxRecDepth 20000 in
theorem putPartR_any {w0 w : World} {g h : Nat} {o : Option St} (v : Value) (qs : List Rc) (hr : RRow w0 v qs) (a : WO w0 w g h o) :
    Calls Try.prog 62 #[.pointer (some ⟨g, 0, none⟩), v, .func (.func 63) #[] #[]] w fun e w' => e = .returned (.tuple #[]) ∧ WO w0 w' g h (stAll stC o qs) ∧ Bes w w' := by
  obtain ⟨n, hn⟩ : ∃ n, n = qs.length := ⟨_, rfl⟩
  have hmax := hr.2.1
  rw [← hn] at hmax
  unfold maxLen at hmax
  have HN : Hid (n = qs.length) := hn
  obtain ⟨x, c, hv⟩ := row_slice hr.1
  rw [← hn] at hv
  subst hv
  have HR : Hid (RRow w0 (.slice x n c) qs) := hr
  have HA : Hid (WO w0 w g h o) := a
  clear hr hn a
  go_enter Try.func62, Try.ntmps62
  go_wp2
  go_loopw [10] (fun i wr => ∃ k : Nat, k ≤ n ∧ i = .int .i64 (k : Int) ∧ Hid (WO w0 wr g h (stAll stC o (qs.take k)) ∧ Bes w wr)) (fun i _ => n - (intOf i).toNat)
  case atStart => exact ⟨0, Nat.zero_le _, rfl, HA.out, Bes.refl _⟩
  case round =>
    clear HA
    obtain ⟨k, hk, rfl, HK⟩ := hrel
    by_cases hkn : k < n
    · have hkm : k < qs.length := by have := HN.out; omega
      obtain ⟨gr, or, cap, hx, hc⟩ := row_at (HR.out.below HK.out.1.out).1 (by omega)
      simp only [Value.slice.injEq] at hx
      obtain ⟨rfl, -, rfl⟩ := hx
      obtain ⟨d0, d1, d2, d3, d4⟩ := r_cells hc hkm
      have hsz := HR.out.2.2 _ (List.getElem_mem hkm)
      have HS : Hid (stAll stC o (qs.take (k + 1)) = (stAll stC o (qs.take k)).bind fun a => stC a qs[k]) := stAll_snoc _ _ _ _ hkm
      obtain ⟨q, hq⟩ : ∃ q, q = qs[k] := ⟨_, rfl⟩
      simp only [← hq] at d0 d1 d2 d3 d4 HS hsz
      have hcall := fun (u : World) (hu : WO w0 u g h (stAll stC o (qs.take k))) => wrecord_any q hsz.1 hsz.2 hu
      obtain ⟨qn, qt, qc, ql, qd⟩ := q
      simp only at d0 d1 d2 d3 d4 hcall
      clear hc hq hsz
      go_wp2_with (go_at_call 63; go_must (refine (hcall _ (HK.out.1.below (lay (Below.refl _ _) _))).mono ?_); rintro e w1 ⟨rfl, h1, b1⟩; have H1 : Hid (WO w0 w1 g h (stAll stC o (qs.take (k + 1))) ∧ Bes w w1) := ⟨(by rw [HS.out]; exact h1), (HK.out.2.trans (Bes.of_below (lay (Below.refl _ _) _))).trans b1⟩; clear h1 b1)
      go_roundw
      case rel => exact ⟨k + 1, by omega, by go_num, H1⟩
      case measure => simp [intOf]; omega
    · have hkn' : decide (k < n) = false := by simpa using hkn
      go_wp2
      go_end0
      obtain ⟨h1, h2⟩ := HK.out
      rw [List.take_of_length_le (by have := HN.out; omega)] at h1
      exact ⟨rfl, h1, h2⟩

end Go.Proofs.Ytcapankhobnfeaa
