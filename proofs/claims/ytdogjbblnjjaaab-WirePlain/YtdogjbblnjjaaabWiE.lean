/- What mayPart gives, of questions and of records. -/
import Derived.Test.YtdogjbblnjjaaabWiD
namespace Go.Proofs.Ytdogjbblnjjaaab
open Go.RowKit
open Pl

theorem row_none {w : World} {v : Value} {xs : List Value} (h : Row w v 0 xs) : ∃ x c, v = .slice x 0 c := by
  rcases h with ⟨h, _⟩ | ⟨g, o, p, cap, h, _⟩
  · exact ⟨_, _, h⟩
  · exact ⟨_, _, h⟩
theorem row_at {w : World} {v : Value} {n : Nat} {xs : List Value} (h : Row w v n xs) (hn : 0 < n) : ∃ g o cap, v = .slice (some ⟨g, o, none⟩) n cap ∧ ∀ j u, xs[j]? = some u → w.cell? ⟨g, o + j, none⟩ = some u := by
  rcases h with ⟨_, h⟩ | ⟨g, o, p, cap, h, hp, hc⟩
  · omega
  · rw [hp hn] at h; exact ⟨g, o, cap, h, hc⟩
theorem row_slice {w : World} {v : Value} {n : Nat} {xs : List Value} (h : Row w v n xs) : ∃ x c, v = .slice x n c := by
  rcases h with ⟨h, rfl⟩ | ⟨g, o, p, cap, h, _⟩
  · exact ⟨_, _, h⟩
  · exact ⟨_, _, h⟩
theorem qC_at {xs : List Qn} {k : Nat} (hk : k < xs.length) (i : Nat) (hi : i < 3) : (qC xs)[k * 3 + i]? = (qV xs[k])[i]? := flat_get (f := qV) (z := 3) (fun _ => rfl) xs k hk i hi
theorem rC_at {xs : List Rc} {k : Nat} (hk : k < xs.length) (i : Nat) (hi : i < 5) : (rC xs)[k * 5 + i]? = (rV xs[k])[i]? := flat_get (f := rV) (z := 5) (fun _ => rfl) xs k hk i hi
/-- The cells of one element. -/
theorem q_cells {w : World} {g o : Nat} {xs : List Qn} (hc : ∀ j u, (qC xs)[j]? = some u → w.cell? ⟨g, o + j, none⟩ = some u) {k : Nat} (hk : k < xs.length) :
    w.cell? ⟨g, o + k * 3, none⟩ = some (.string xs[k].n) ∧ w.cell? ⟨g, o + k * 3 + 1, none⟩ = some (.int .i64 xs[k].t) ∧ w.cell? ⟨g, o + k * 3 + 2, none⟩ = some (.int .i64 xs[k].c) :=
  ⟨hc _ _ (qC_at hk 0 (by decide)), hc _ _ (qC_at hk 1 (by decide)), hc _ _ (qC_at hk 2 (by decide))⟩
theorem r_cells {w : World} {g o : Nat} {xs : List Rc} (hc : ∀ j u, (rC xs)[j]? = some u → w.cell? ⟨g, o + j, none⟩ = some u) {k : Nat} (hk : k < xs.length) :
    w.cell? ⟨g, o + k * 5, none⟩ = some (.string xs[k].n) ∧ w.cell? ⟨g, o + k * 5 + 1, none⟩ = some (.int .i64 xs[k].t) ∧ w.cell? ⟨g, o + k * 5 + 2, none⟩ = some (.int .i64 xs[k].c) ∧ w.cell? ⟨g, o + k * 5 + 3, none⟩ = some (.int .i64 xs[k].l) ∧ w.cell? ⟨g, o + k * 5 + 4, none⟩ = some (.string xs[k].d) :=
  ⟨hc _ _ (rC_at hk 0 (by decide)), hc _ _ (rC_at hk 1 (by decide)), hc _ _ (rC_at hk 2 (by decide)), hc _ _ (rC_at hk 3 (by decide)), hc _ _ (rC_at hk 4 (by decide))⟩

theorem all_no {α : Type} {f : α → Bool} {xs : List α} {k : Nat} (hk : k < xs.length) (h : f xs[k] = false) : few f xs = false := by
  unfold few
  have : xs.all f = false := by
    rw [Bool.eq_false_iff]
    intro h1
    rw [List.all_eq_true] at h1
    have := h1 xs[k] (List.getElem_mem hk)
    rw [h] at this
    simp at this
  rw [this, Bool.and_false]
theorem all_take {α : Type} {f : α → Bool} {xs : List α} {k : Nat} (hk : k < xs.length) (h : (xs.take k).all f = true) (h1 : f xs[k] = true) : (xs.take (k + 1)).all f = true := by
  rw [List.take_succ_eq_append_getElem hk, List.all_append, h]
  simp [h1]

set_option maxRecDepth 20000 in
theorem mayPartQ_any (v : Value) (qs : List Qn) (w : World) (hr : QRow w v qs) :
    Calls Try.prog 37 #[v, .func (.func 38) #[] #[]] w fun e w' => e = .returned (.bool (few mayQ qs)) ∧ Below w.heap.size w w' := by
  obtain ⟨n, hn⟩ : ∃ n, n = qs.length := ⟨_, rfl⟩
  have hmax := hr.2.1
  rw [← hn] at hmax
  unfold maxLen at hmax
  have hb : Below w.heap.size w w := Below.refl _ _
  obtain ⟨R, hR⟩ : ∃ R, R = few mayQ qs := ⟨_, rfl⟩
  have HRR : Hid (R = few mayQ qs) := hR
  have HN : Hid (n = qs.length) := hn
  obtain ⟨x, c, hv⟩ := row_slice hr.1
  rw [← hn] at hv
  subst hv
  have HR : Hid (QRow w (.slice x n c) qs) := hr
  rw [← hR]
  clear hR hr hn
  by_cases h64 : 64 < n
  · have h64' : (64 : Int) < (n : Int) := by omega
    have HF : Hid (R = false) := by unfold Hid; rw [HRR.out]; unfold few; have := HN.out; simp; omega
    go_enter Try.func37, Try.ntmps37
    go_wp2
    go_ret
    exact ⟨ret_bool HF.out.symm, hb⟩
  · have h64' : decide ((64 : Int) < (n : Int)) = false := by simp; omega
    go_enter Try.func37, Try.ntmps37
    go_wp2
    go_loopw [12] (fun i wr => ∃ k : Nat, k ≤ n ∧ i = .int .i64 (k : Int) ∧ Hid ((qs.take k).all mayQ = true) ∧ Below w.heap.size w wr) (fun i _ => n - (intOf i).toNat)
    case atStart => exact ⟨0, Nat.zero_le _, rfl, by unfold Hid; simp, hb⟩
    case round =>
      clear hb
      obtain ⟨k, hk, rfl, HK, hb⟩ := hrel
      by_cases hkn : k < n
      · have hkm : k < qs.length := by have := HN.out; omega
        obtain ⟨g, o, cap, hx, hc⟩ := row_at (HR.out.below hb).1 (by omega)
        simp only [Value.slice.injEq] at hx
        obtain ⟨rfl, -, rfl⟩ := hx
        obtain ⟨d0, d1, d2⟩ := q_cells hc hkm
        have hcall := fun u => mayQuestion_any qs[k] u (HR.out.2.2 _ (List.getElem_mem hkm))
        obtain ⟨q, hq⟩ : ∃ q, q = qs[k] := ⟨_, rfl⟩
        simp only [← hq] at d0 d1 d2 hcall
        obtain ⟨b, hbq⟩ : ∃ b, mayQ q = b := ⟨_, rfl⟩
        rw [hbq] at hcall
        have HB : Hid (mayQ qs[k] = b) := by unfold Hid; rw [← hq]; exact hbq
        obtain ⟨qn, qt, qc⟩ := q
        simp only at d0 d1 d2 hcall
        clear hc hq hbq
        cases b with
        | false =>
          have HF : Hid (R = false) := by unfold Hid; rw [HRR.out]; exact all_no hkm HB.out
          go_wp2_with (go_at_call 38; go_must (refine (hcall _).mono ?_); rintro e w1 ⟨rfl, b1⟩; replace hb := next (lay hb _) b1; clear b1)
          go_ret
          exact ⟨ret_bool HF.out.symm, hb⟩
        | true =>
          have HK2 : Hid ((qs.take (k + 1)).all mayQ = true) := all_take hkm HK.out HB.out
          go_wp2_with (go_at_call 38; go_must (refine (hcall _).mono ?_); rintro e w1 ⟨rfl, b1⟩; replace hb := next (lay hb _) b1; clear b1)
          go_roundw
          case rel => exact ⟨k + 1, by omega, by go_num, HK2, hb⟩
          case measure => simp [intOf]; omega
      · have hkn' : decide (k < n) = false := by simpa using hkn
        have HF : Hid (R = true) := by
          unfold Hid; rw [HRR.out]; unfold few
          have h1 := HK.out
          rw [List.take_of_length_le (by have := HN.out; omega)] at h1
          rw [h1]
          have := HN.out
          simp; omega
        go_wp2
        go_ret
        exact ⟨ret_bool HF.out.symm, hb⟩

set_option maxRecDepth 20000 in
theorem mayPartR_any (v : Value) (qs : List Rc) (w : World) (hr : RRow w v qs) :
    Calls Try.prog 39 #[v, .func (.func 40) #[] #[]] w fun e w' => e = .returned (.bool (few mayR qs)) ∧ Below w.heap.size w w' := by
  obtain ⟨n, hn⟩ : ∃ n, n = qs.length := ⟨_, rfl⟩
  have hmax := hr.2.1
  rw [← hn] at hmax
  unfold maxLen at hmax
  have hb : Below w.heap.size w w := Below.refl _ _
  obtain ⟨R, hR⟩ : ∃ R, R = few mayR qs := ⟨_, rfl⟩
  have HRR : Hid (R = few mayR qs) := hR
  have HN : Hid (n = qs.length) := hn
  obtain ⟨x, c, hv⟩ := row_slice hr.1
  rw [← hn] at hv
  subst hv
  have HR : Hid (RRow w (.slice x n c) qs) := hr
  rw [← hR]
  clear hR hr hn
  by_cases h64 : 64 < n
  · have h64' : (64 : Int) < (n : Int) := by omega
    have HF : Hid (R = false) := by unfold Hid; rw [HRR.out]; unfold few; have := HN.out; simp; omega
    go_enter Try.func39, Try.ntmps39
    go_wp2
    go_ret
    exact ⟨ret_bool HF.out.symm, hb⟩
  · have h64' : decide ((64 : Int) < (n : Int)) = false := by simp; omega
    go_enter Try.func39, Try.ntmps39
    go_wp2
    go_loopw [12] (fun i wr => ∃ k : Nat, k ≤ n ∧ i = .int .i64 (k : Int) ∧ Hid ((qs.take k).all mayR = true) ∧ Below w.heap.size w wr) (fun i _ => n - (intOf i).toNat)
    case atStart => exact ⟨0, Nat.zero_le _, rfl, by unfold Hid; simp, hb⟩
    case round =>
      clear hb
      obtain ⟨k, hk, rfl, HK, hb⟩ := hrel
      by_cases hkn : k < n
      · have hkm : k < qs.length := by have := HN.out; omega
        obtain ⟨g, o, cap, hx, hc⟩ := row_at (HR.out.below hb).1 (by omega)
        simp only [Value.slice.injEq] at hx
        obtain ⟨rfl, -, rfl⟩ := hx
        obtain ⟨d0, d1, d2, d3, d4⟩ := r_cells hc hkm
        have hcall := fun u => mayRecord_any qs[k] u (HR.out.2.2 _ (List.getElem_mem hkm)).1 (HR.out.2.2 _ (List.getElem_mem hkm)).2
        obtain ⟨q, hq⟩ : ∃ q, q = qs[k] := ⟨_, rfl⟩
        simp only [← hq] at d0 d1 d2 d3 d4 hcall
        obtain ⟨b, hbq⟩ : ∃ b, mayR q = b := ⟨_, rfl⟩
        rw [hbq] at hcall
        have HB : Hid (mayR qs[k] = b) := by unfold Hid; rw [← hq]; exact hbq
        obtain ⟨qn, qt, qc, ql, qd⟩ := q
        simp only at d0 d1 d2 d3 d4 hcall
        clear hc hq hbq
        cases b with
        | false =>
          have HF : Hid (R = false) := by unfold Hid; rw [HRR.out]; exact all_no hkm HB.out
          go_wp2_with (go_at_call 40; go_must (refine (hcall _).mono ?_); rintro e w1 ⟨rfl, b1⟩; replace hb := next (lay hb _) b1; clear b1)
          go_ret
          exact ⟨ret_bool HF.out.symm, hb⟩
        | true =>
          have HK2 : Hid ((qs.take (k + 1)).all mayR = true) := all_take hkm HK.out HB.out
          go_wp2_with (go_at_call 40; go_must (refine (hcall _).mono ?_); rintro e w1 ⟨rfl, b1⟩; replace hb := next (lay hb _) b1; clear b1)
          go_roundw
          case rel => exact ⟨k + 1, by omega, by go_num, HK2, hb⟩
          case measure => simp [intOf]; omega
      · have hkn' : decide (k < n) = false := by simpa using hkn
        have HF : Hid (R = true) := by
          unfold Hid; rw [HRR.out]; unfold few
          have h1 := HK.out
          rw [List.take_of_length_le (by have := HN.out; omega)] at h1
          rw [h1]
          have := HN.out
          simp; omega
        go_wp2
        go_ret
        exact ⟨ret_bool HF.out.symm, hb⟩

set_option maxRecDepth 20000 in
/-- What mayParts gives. -/
theorem mayParts_any (HV : Array Value) (id : Int) (qr : Bool) (op : Int) (aa tc rd ra : Bool) (z rc : Int) (v0 v1 v2 v3 : Value) (qs : List Qn) (an ns ar : List Rc) (w : World) (h0 : QRow w v0 qs) (h1 : RRow w v1 an) (h2 : RRow w v2 ns) (h3 : RRow w v3 ar)
    (hH : HV = #[.int .i64 id, .bool qr, .int .i64 op, .bool aa, .bool tc, .bool rd, .bool ra, .int .i64 z, .int .i64 rc, v0, v1, v2, v3]) :
    Calls Try.prog 17 #[.agg HV] w fun e w' => e = .returned (.bool (few mayQ qs && few mayR an && few mayR ns && few mayR ar)) ∧ Below w.heap.size w w' := by
  subst hH
  obtain ⟨b0, e0⟩ : ∃ b, few mayQ qs = b := ⟨_, rfl⟩
  obtain ⟨b1, e1⟩ : ∃ b, few mayR an = b := ⟨_, rfl⟩
  obtain ⟨b2, e2⟩ : ∃ b, few mayR ns = b := ⟨_, rfl⟩
  obtain ⟨b3, e3⟩ : ∃ b, few mayR ar = b := ⟨_, rfl⟩
  rw [e0, e1, e2, e3]
  obtain ⟨x0, c0, rfl⟩ := row_slice h0.1
  obtain ⟨x1, c1, rfl⟩ := row_slice h1.1
  obtain ⟨x2, c2, rfl⟩ := row_slice h2.1
  obtain ⟨x3, c3, rfl⟩ := row_slice h3.1
  have hb : Below w.heap.size w w := Below.refl _ _
  have H0 : Hid (QRow w (.slice x0 qs.length c0) qs) := h0
  have H1 : Hid (RRow w (.slice x1 an.length c1) an) := h1
  have H2 : Hid (RRow w (.slice x2 ns.length c2) ns) := h2
  have H3 : Hid (RRow w (.slice x3 ar.length c3) ar) := h3
  have K0 : ∀ u, Hid (Below w.heap.size w u) → Calls Try.prog 37 #[.slice x0 qs.length c0, .func (.func 38) #[] #[]] u fun e w' => e = .returned (.bool b0) ∧ Below u.heap.size u w' := fun u hu => by rw [← e0]; exact mayPartQ_any _ qs u (H0.out.below hu.out)
  have K1 : ∀ u, Hid (Below w.heap.size w u) → Calls Try.prog 39 #[.slice x1 an.length c1, .func (.func 40) #[] #[]] u fun e w' => e = .returned (.bool b1) ∧ Below u.heap.size u w' := fun u hu => by rw [← e1]; exact mayPartR_any _ an u (H1.out.below hu.out)
  have K2 : ∀ u, Hid (Below w.heap.size w u) → Calls Try.prog 39 #[.slice x2 ns.length c2, .func (.func 40) #[] #[]] u fun e w' => e = .returned (.bool b2) ∧ Below u.heap.size u w' := fun u hu => by rw [← e2]; exact mayPartR_any _ ns u (H2.out.below hu.out)
  have K3 : ∀ u, Hid (Below w.heap.size w u) → Calls Try.prog 39 #[.slice x3 ar.length c3, .func (.func 40) #[] #[]] u fun e w' => e = .returned (.bool b3) ∧ Below u.heap.size u w' := fun u hu => by rw [← e3]; exact mayPartR_any _ ar u (H3.out.below hu.out)
  have KB := Blk.new w #[.int .i64 id, .bool qr, .int .i64 op, .bool aa, .bool tc, .bool rd, .bool ra, .int .i64 z, .int .i64 rc, .slice x0 qs.length c0, .slice x1 an.length c1, .slice x2 ns.length c2, .slice x3 ar.length c3] 33
  have f9 := KB.cell 9
  have f10 := KB.cell 10
  have f11 := KB.cell 11
  have f12 := KB.cell 12
  have t1 : True := trivial
  have t2 : True := trivial
  clear h0 h1 h2 h3 e0 e1 e2 e3 H0 H1 H2 H3
  cases b0 with
  | false =>
    go_enter Try.func17, Try.ntmps17
    go_wp2_with (go_at_call 37; go_must (refine (K0 _ (lay hb _)).mono ?_); rintro e w1 ⟨rfl, b1⟩; replace hb := next (lay hb _) b1)
    go_ret
    exact ⟨rfl, hb⟩
  | true =>
    cases b1 with
    | false =>
      go_enter Try.func17, Try.ntmps17
      go_wp2_with (first
        | (go_at_call 37; go_must (refine (K0 _ (lay hb _)).mono ?_); rintro e w1 ⟨rfl, b1⟩; replace hb := next (lay hb _) b1; replace KB := KB.below b1; clear f9 f10 f11 f12; have f10 := KB.cell 10; have f11 := KB.cell 11; have f12 := KB.cell 12; clear b1)
        | (go_at_call 39; go_must (refine (K1 _ hb).mono ?_); rintro e w2 ⟨rfl, b1⟩; replace hb := next hb b1; replace KB := KB.below b1; clear f10 f11 f12; have f11 := KB.cell 11; have f12 := KB.cell 12; clear b1))
      go_ret
      exact ⟨rfl, hb⟩
    | true =>
      cases b2 with
      | false =>
        go_enter Try.func17, Try.ntmps17
        go_wp2_with (first
          | (go_at_call 37; go_must (refine (K0 _ (lay hb _)).mono ?_); rintro e w1 ⟨rfl, b1⟩; replace hb := next (lay hb _) b1; replace KB := KB.below b1; clear f9 f10 f11 f12; have f10 := KB.cell 10; have f11 := KB.cell 11; have f12 := KB.cell 12; clear b1)
          | (go_at_call 39; have _t := t1; go_must (refine (K1 _ hb).mono ?_); rintro e w2 ⟨rfl, b1⟩; replace hb := next hb b1; replace KB := KB.below b1; clear f10 f11 f12; have f11 := KB.cell 11; have f12 := KB.cell 12; clear b1; clear t1 _t)
          | (go_at_call 39; go_must (refine (K2 _ hb).mono ?_); rintro e w3 ⟨rfl, b1⟩; replace hb := next hb b1; replace KB := KB.below b1; clear f11 f12; have f12 := KB.cell 12; clear b1))
        go_ret
        exact ⟨rfl, hb⟩
      | true =>
        go_enter Try.func17, Try.ntmps17
        go_wp2_with (first
          | (go_at_call 37; go_must (refine (K0 _ (lay hb _)).mono ?_); rintro e w1 ⟨rfl, b1⟩; replace hb := next (lay hb _) b1; replace KB := KB.below b1; clear f9 f10 f11 f12; have f10 := KB.cell 10; have f11 := KB.cell 11; have f12 := KB.cell 12; clear b1)
          | (go_at_call 39; have _t := t1; go_must (refine (K1 _ hb).mono ?_); rintro e w2 ⟨rfl, b1⟩; replace hb := next hb b1; replace KB := KB.below b1; clear f10 f11 f12; have f11 := KB.cell 11; have f12 := KB.cell 12; clear b1; clear t1 _t)
          | (go_at_call 39; have _t := t2; go_must (refine (K2 _ hb).mono ?_); rintro e w3 ⟨rfl, b1⟩; replace hb := next hb b1; replace KB := KB.below b1; clear f11 f12; have f12 := KB.cell 12; clear b1; clear t2 _t)
          | (go_at_call 39; go_must (refine (K3 _ hb).mono ?_); rintro e w4 ⟨rfl, b1⟩; replace hb := next hb b1; replace KB := KB.below b1; clear f12; skip; clear b1))
        go_ret
        exact ⟨ret_bool (by simp), hb⟩

end Go.Proofs.Ytdogjbblnjjaaab
