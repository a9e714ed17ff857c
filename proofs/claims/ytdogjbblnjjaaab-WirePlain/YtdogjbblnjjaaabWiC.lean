/- Messages there and back, plainly: what was written is read. -/
import Derived.Test.YtdogjbblnjjaaabWiB
namespace Go.Proofs.Ytdogjbblnjjaaab
open Go.RowKit
open Pl

/-- A state in which each rest reads at its place as itself. -/
def OkS (st : St) : Prop := MInv st.1 st.2 ∧ st.1.length ≤ 4096

theorem minv_app {B : List UInt8} {ms : Marks} (h : MInv B ms) (e : List UInt8) : MInv (B ++ e) ms := fun r q hq => by
  obtain ⟨h1, d, b, h2⟩ := h r q hq
  exact ⟨by rw [List.length_append]; omega, d, b, rd_app e _ _ _ _ _ h2⟩

theorem stN_ok {st st' : St} {n : ByteArray} (hn : isName n.data.toList = true) (h : stN st n = some st') : st'.1 = outW st.1 st.2 n.data.toList ∧ st'.2 = marW st.1 st.2 n.data.toList ∧ st'.1.length = st.1.length + sizW st.2 n.data.toList ∧ st'.1.length ≤ 4096 := by
  unfold stN at h
  by_cases hf : st.1.length + sizW st.2 n.data.toList ≤ 4096
  · obtain ⟨h1, h2, h3⟩ := nam_yes (B := st.1) (ms := st.2) hn hf
    rw [h1, if_pos rfl, h2, h3] at h
    simp at h
    subst h
    refine ⟨rfl, rfl, outW_len hn, ?_⟩
    rw [outW_len hn]; exact hf
  · obtain ⟨h1, h2, h3⟩ := nam_long (B := st.1) (ms := st.2) hn hf
    rw [h1] at h
    simp at h
theorem stR_ok {st st' : St} {s : ByteArray} (h : stR st s = some st') : st'.1 = st.1 ++ s.data.toList ∧ st'.2 = st.2 ∧ st'.1.length ≤ 4096 := by
  unfold stR rawE rawB at h
  by_cases hf : st.1.length + s.size ≤ 4096
  · rw [if_pos hf, if_pos rfl, if_pos hf] at h
    simp at h
    subst h
    exact ⟨rfl, rfl, by rw [List.length_append, data_len]; exact hf⟩
  · rw [if_neg hf] at h
    simp at h

theorem outW_pre (B : List UInt8) (ms : Marks) (n : List UInt8) : ∃ x, outW B ms n = B ++ x := ⟨_, rfl⟩
/-- A name that was written is read. -/
theorem name_back {st st' : St} {n : ByteArray} (hn : isName n.data.toList = true) (ho : OkS st) (h : stN st n = some st') : OkS st' ∧ (∃ x, st'.1 = st.1 ++ x) ∧ ∀ y, nameOf (st'.1 ++ y) st.1.length = some (n.data.toList, st'.1.length) := by
  obtain ⟨h1, h2, h3, h4⟩ := stN_ok hn h
  have hB : st.1.length ≤ 16384 := by have := ho.2; omega
  refine ⟨⟨by rw [h1, h2]; exact write_inv hn ho.1 hB, h4⟩, by rw [h1]; exact outW_pre _ _ _, fun y => ?_⟩
  obtain ⟨d, hd⟩ := write_name hn ho.1 hB
  rw [h3, h1]
  exact rd_name (rd_app y _ _ _ _ _ hd) (name_some hn).1

theorem be2_list (x : Int) : (be2 x).data.toList = [oct x 256, oct x 1] := rfl
theorem be4_list (x : Int) : (be4 x).data.toList = [oct x 16777216, oct x 65536, oct x 256, oct x 1] := rfl
theorem val4_of {s : ByteArray} {k : Nat} {a b c d : UInt8} {rest : List UInt8} (h : s.data.toList.drop k = a :: b :: c :: d :: rest) : val s k 4 = four a b c d := by
  obtain ⟨_, e0⟩ := drop_get h 0 (by simp)
  obtain ⟨_, e1⟩ := drop_get h 1 (by simp)
  obtain ⟨_, e2⟩ := drop_get h 2 (by simp)
  obtain ⟨h3, e3⟩ := drop_get h 3 (by simp)
  have f0 : s[k] = a := e0
  rw [val_four s k (by omega), f0, e1, e2, e3]
  rfl
theorem in16 {x : Int} (h : inB 65535 x = true) : x % 65536 = x := by simp only [inB, decide_eq_true_eq] at h; omega
theorem in32 {x : Int} (h : inB 4294967295 x = true) : x % 4294967296 = x := by simp only [inB, decide_eq_true_eq] at h; omega

/-- A question that was written is read. -/
theorem q_back {st st' : St} {q : Qn} (hq : mayQ q = true) (ho : OkS st) (h : stQ st q = some st') : OkS st' ∧ (∃ x, st'.1 = st.1 ++ x) ∧ ∀ y, getQ ⟨(st'.1 ++ y).toArray⟩ st.1.length = some (q, st'.1.length) := by
  unfold mayQ at hq
  simp only [Bool.and_eq_true, decide_eq_true_eq] at hq
  obtain ⟨⟨hn, ht⟩, hc⟩ := hq
  unfold stQ at h
  cases h1 : stN st q.n with
  | none => rw [h1] at h; simp at h
  | some a =>
    rw [h1] at h
    simp only [Option.bind_some] at h
    obtain ⟨o1, ⟨x, p1⟩, r1⟩ := name_back hn ho h1
    obtain ⟨e1, e2, e3⟩ := stR_ok h
    refine ⟨⟨by rw [e1, e2]; exact minv_app o1.1 _, e3⟩, ⟨x ++ (qB q).data.toList, by rw [e1, p1, List.append_assoc]⟩, fun y => ?_⟩
    have hl : st'.1.length = a.1.length + 4 := by rw [e1, List.length_append]; rfl
    obtain ⟨s, hs⟩ : ∃ s : ByteArray, s = ⟨(st'.1 ++ y).toArray⟩ := ⟨_, rfl⟩
    have hsl : s.data.toList = a.1 ++ ([oct q.t 256, oct q.t 1, oct q.c 256, oct q.c 1] ++ y) := by
      rw [hs, list_arr, e1]
      unfold qB
      rw [app_list, be2_list, be2_list]
      simp
    have hsz : a.1.length + 4 ≤ s.size := by rw [← data_len, hsl]; simp
    rw [← hs]
    unfold getQ
    rw [hsl, r1]
    simp only
    have v1 : val s a.1.length 2 = q.t := by
      rw [val_of (s := s) (k := a.1.length) (a := oct q.t 256) (b := oct q.t 1) (rest := [oct q.c 256, oct q.c 1] ++ y) (by rw [hsl, List.drop_left]; rfl), two_be]; omega
    have v2 : val s (a.1.length + 2) 2 = q.c := by
      rw [val_of (s := s) (k := a.1.length + 2) (a := oct q.c 256) (b := oct q.c 1) (rest := y) (by rw [hsl, ← List.drop_drop, List.drop_left]; rfl), two_be, in16 hc]
    rw [v1, v2, if_pos ⟨hsz, by omega⟩, hl, arr_list]

/-- Data that stands as it is is read. -/
theorem data_whole {t : Int} {d : List UInt8} (h : mayD t d = true) (a y : List UInt8) : dataOf (a ++ (d ++ y)) a.length d.length t = some d := by
  by_cases h1 : t = 2 ∨ t = 5 ∨ t = 12
  · rw [may_n h1] at h
    rw [data_n h1, name_whole h, dtN, if_pos rfl]; rfl
  · by_cases h2 : t = 15
    · subst h2
      rw [may_15] at h
      simp only [Bool.and_eq_true, decide_eq_true_eq] at h
      have e1 : a ++ (d ++ y) = (a ++ d.take 2) ++ (d.drop 2 ++ y) := by
        rw [List.append_assoc, ← List.append_assoc (d.take 2), List.take_append_drop]
      have e2 : (a ++ d.take 2).length = a.length + 2 := by rw [List.length_append, List.length_take]; omega
      have hn := name_whole h.2 (a ++ d.take 2) y
      rw [e2, ← e1] at hn
      rw [data_15, if_neg (by omega), hn, dtN, if_pos (by rw [List.length_drop]; omega), List.drop_left, List.take_append_of_le_length (by omega), List.take_append_drop]
    · by_cases h3 : t = 6
      · subst h3
        rw [may_6] at h
        obtain ⟨⟨i, j⟩, hs⟩ := Option.isSome_iff_exists.1 h
        obtain ⟨c1, c2, c3⟩ := soa_some hs
        have k1 := cut_some c1
        have k2 := cut_some c2
        rw [List.length_drop] at k2
        have e1 : a ++ (d ++ y) = a ++ (d.take i ++ (d.drop i ++ y)) := by rw [← List.append_assoc (d.take i), List.take_append_drop]
        have l1 : (d.take i).length = i := by rw [List.length_take]; omega
        have hn := name_whole k1.2.2.2 a (d.drop i ++ y)
        rw [← e1, l1] at hn
        have e2 : a ++ (d ++ y) = (a ++ d.take i) ++ ((d.drop i).take j ++ ((d.drop i).drop j ++ y)) := by
          rw [← List.append_assoc ((d.drop i).take j), List.take_append_drop, List.append_assoc, ← List.append_assoc (d.take i), List.take_append_drop]
        have l2 : (a ++ d.take i).length = a.length + i := by rw [List.length_append, l1]
        have l3 : ((d.drop i).take j).length = j := by rw [List.length_take, List.length_drop]; omega
        have hn2 := name_whole k2.2.2.2 (a ++ d.take i) ((d.drop i).drop j ++ y)
        rw [← e2, l2, l3] at hn2
        rw [data_6, hn, dtS, hn2, dtS2, if_pos (by omega)]
        have e3 : (a ++ (d ++ y)).drop (a.length + i + j) = (d.drop i).drop j ++ y := by
          rw [Nat.add_assoc, ← List.drop_drop, List.drop_left, List.drop_append_of_le_length (by omega), List.drop_drop]
        have l4 : ((d.drop i).drop j).length = 20 := by rw [List.length_drop, List.length_drop]; omega
        rw [e3, List.take_append_of_le_length (by omega), List.take_of_length_le (l := (d.drop i).drop j) (by omega), List.take_append_drop, List.take_append_drop]
      · rw [data_o h1 h2 h3, List.drop_left, List.take_left, if_pos h]

/-- A record that was written is read. -/
theorem r_back {st st' : St} {r : Rc} (hr : mayR r = true) (ho : OkS st) (h : stC st r = some st') : OkS st' ∧ (∃ x, st'.1 = st.1 ++ x) ∧ ∀ y, getR ⟨(st'.1 ++ y).toArray⟩ st.1.length = some (r, st'.1.length) := by
  unfold mayR at hr
  simp only [Bool.and_eq_true] at hr
  obtain ⟨⟨⟨hn, hc⟩, hl⟩, hd⟩ := hr
  have ht := may_top hd
  rw [data_len] at ht
  unfold stC at h
  cases h1 : stN st r.n with
  | none => rw [h1] at h; simp at h
  | some a =>
    rw [h1] at h
    simp only [Option.bind_some] at h
    obtain ⟨o1, ⟨x, p1⟩, r1⟩ := name_back hn ho h1
    obtain ⟨e1, e2, e3⟩ := stR_ok h
    refine ⟨⟨by rw [e1, e2]; exact minv_app o1.1 _, e3⟩, ⟨x ++ (rB r ++ r.d).data.toList, by rw [e1, p1, List.append_assoc]⟩, fun y => ?_⟩
    have hrl : (rB r).data.toList = [oct r.t 256, oct r.t 1, oct r.c 256, oct r.c 1, oct r.l 16777216, oct r.l 65536, oct r.l 256, oct r.l 1, oct (r.d.size : Int) 256, oct (r.d.size : Int) 1] := by
      unfold rB
      rw [app_list, app_list, app_list, be2_list, be2_list, be2_list, be4_list]; rfl
    have hle : st'.1.length = a.1.length + 10 + r.d.size := by rw [e1, List.length_append, app_list, List.length_append, hrl, data_len]; simp; omega
    obtain ⟨s, hs⟩ : ∃ s : ByteArray, s = ⟨(st'.1 ++ y).toArray⟩ := ⟨_, rfl⟩
    have hsl : s.data.toList = a.1 ++ ((rB r).data.toList ++ (r.d.data.toList ++ y)) := by
      rw [hs, list_arr, e1, app_list]; simp
    have hsz : a.1.length + 10 + r.d.size ≤ s.size := by rw [← data_len s, hsl, List.length_append, List.length_append, List.length_append, hrl, data_len]; simp; omega
    rw [← hs]
    unfold getR
    have v1 : val s a.1.length 2 = r.t := by
      rw [val_of (s := s) (k := a.1.length) (by rw [hsl, List.drop_left, hrl]; rfl), two_be]; omega
    have v2 : val s (a.1.length + 2) 2 = r.c := by
      rw [val_of (s := s) (k := a.1.length + 2) (by rw [hsl, ← List.drop_drop, List.drop_left, hrl]; rfl), two_be, in16 hc]
    have v3 : val s (a.1.length + 4) 4 = r.l := by
      rw [val4_of (s := s) (k := a.1.length + 4) (by rw [hsl, ← List.drop_drop, List.drop_left, hrl]; rfl), four_be, in32 hl]
    have v4 : val s (a.1.length + 8) 2 = (r.d.size : Int) := by
      rw [val_of (s := s) (k := a.1.length + 8) (by rw [hsl, ← List.drop_drop, List.drop_left, hrl]; rfl), two_be]; omega
    have hdt : dataOf s.data.toList (a.1.length + 10) r.d.size r.t = some r.d.data.toList := by
      have := data_whole hd (a.1 ++ (rB r).data.toList) y
      rw [List.length_append, hrl, data_len, ← hrl, List.append_assoc, ← hsl] at this
      exact this
    have hnm : nameOf s.data.toList st.1.length = some (r.n.data.toList, a.1.length) := by rw [hsl]; exact r1 _
    rw [hnm]
    simp only
    rw [v1, v2, v3, v4]
    simp only [Int.toNat_natCast]
    rw [if_pos hsz, hdt]
    simp only
    rw [hle, arr_list, arr_list]

theorem getAll_cons {α : Type} {f : Nat → Option (α × Nat)} {p a : Nat} {x : α} (hf : f p = some (x, a)) : ∀ {k b : Nat} {xs : List α}, getAll f a k = some (xs, b) → getAll f p (k + 1) = some (x :: xs, b) := by
  intro k
  induction k with
  | zero => intro b xs h; simp [getAll] at h; obtain ⟨rfl, rfl⟩ := h; simp [getAll, hf]
  | succ k ih =>
    intro b xs h
    rw [getAll] at h
    cases h1 : getAll f a k with
    | none => rw [h1] at h; simp at h
    | some z =>
      obtain ⟨ys, c⟩ := z
      rw [h1] at h
      simp only at h
      cases h2 : f c with
      | none => rw [h2] at h; simp at h
      | some z =>
        obtain ⟨y, e⟩ := z
        rw [h2] at h
        simp at h
        obtain ⟨rfl, rfl⟩ := h
        exact getAll_next (ih h1) h2
theorem all_back {α : Type} {f : St → α → Option St} {get : ByteArray → Nat → Option (α × Nat)} {may : α → Bool} (H : ∀ st x st', may x = true → OkS st → f st x = some st' → OkS st' ∧ (∃ e, st'.1 = st.1 ++ e) ∧ ∀ y, get ⟨(st'.1 ++ y).toArray⟩ st.1.length = some (x, st'.1.length)) :
    ∀ (xs : List α) (st st' : St), xs.all may = true → OkS st → stAll f (some st) xs = some st' → OkS st' ∧ (∃ e, st'.1 = st.1 ++ e) ∧ ∀ y, getAll (get ⟨(st'.1 ++ y).toArray⟩) st.1.length xs.length = some (xs, st'.1.length) := by
  intro xs
  induction xs with
  | nil => intro st st' _ ho h; simp [stAll] at h; subst h; exact ⟨ho, ⟨[], by simp⟩, fun y => rfl⟩
  | cons x xs ih =>
    intro st st' hm ho h
    rw [stAll_cons, Option.bind_some] at h
    simp only [List.all_cons, Bool.and_eq_true] at hm
    cases h1 : f st x with
    | none => rw [h1, stAll_none] at h; simp at h
    | some a =>
      rw [h1] at h
      obtain ⟨o1, ⟨e1, p1⟩, r1⟩ := H st x a hm.1 ho h1
      obtain ⟨o2, ⟨e2, p2⟩, r2⟩ := ih a st' hm.2 o1 h
      refine ⟨o2, ⟨e1 ++ e2, by rw [p2, p1, List.append_assoc]⟩, fun y => ?_⟩
      refine getAll_cons (x := x) (a := a.1.length) ?_ (r2 y)
      rw [p2, List.append_assoc]
      exact r1 _

theorem few_iff {α : Type} {f : α → Bool} {xs : List α} (h : few f xs = true) : xs.length ≤ 64 ∧ xs.all f = true := by
  unfold few at h
  simpa using h
theorem hd_back {m : Ms} (hm : mayHd m.h = true) (e : ByteArray) : hdOf (headS m ++ e) = m.h := by
  unfold mayHd at hm
  rw [mayH_iff] at hm
  obtain ⟨h1, h2, h3, h4, _⟩ := hm
  have hb := head_back m.h.id m.h.qr m.h.op m.h.aa m.h.tc m.h.rd m.h.ra m.h.z m.h.rc h2 h3 h4
  have hw := word_lt (qr := m.h.qr) (aa := m.h.aa) (tc := m.h.tc) (rd := m.h.rd) (ra := m.h.ra) h2 h3 h4
  obtain ⟨p0, p1, _⟩ := put_vals m.h.id (wordH m.h.qr m.h.op m.h.aa m.h.tc m.h.rd m.h.ra m.h.z m.h.rc) (m.qs.length : Int) (m.an.length : Int) (m.ns.length : Int) (m.ar.length : Int) e
  have i1 := fit_iff.1 h1
  unfold hdOf headS
  rw [p0, p1, show m.h.id % 65536 = m.h.id from by omega, Int.emod_eq_of_lt hw.1 hw.2]
  unfold headW headV at hb
  simp only [Array.mk.injEq, List.cons.injEq, Value.int.injEq, Value.bool.injEq, true_and, and_true] at hb
  obtain ⟨a1, a2, a3, a4, a5, a6, a7, a8⟩ := hb
  rw [a1, a2, a3, a4, a5, a6, a7, a8]
theorem cnt_back (m : Ms) (h0 : m.qs.length ≤ 64) (h1 : m.an.length ≤ 64) (h2 : m.ns.length ≤ 64) (h3 : m.ar.length ≤ 64) (e : ByteArray) : cnt (headS m ++ e) 0 = m.qs.length ∧ cnt (headS m ++ e) 1 = m.an.length ∧ cnt (headS m ++ e) 2 = m.ns.length ∧ cnt (headS m ++ e) 3 = m.ar.length := by
  obtain ⟨_, _, p0, p1, p2, p3⟩ := put_vals m.h.id (wordH m.h.qr m.h.op m.h.aa m.h.tc m.h.rd m.h.ra m.h.z m.h.rc) (m.qs.length : Int) (m.an.length : Int) (m.ns.length : Int) (m.ar.length : Int) e
  unfold cnt headS
  simp only [Nat.mul_zero, Nat.add_zero, Nat.mul_one]
  rw [p0, p1, p2, p3]
  omega
theorem headS_len (m : Ms) : (headS m).data.toList.length = 12 := by unfold headS; rw [list12]; rfl

/-- A message that was written is read, and is not too long. -/
theorem there_back {m : Ms} {st : St} (hm : mayM m = true) (h : putSt m = some st) : getM ⟨st.1.toArray⟩ = some m ∧ st.1.length ≤ 4096 ∧ 12 ≤ st.1.length := by
  unfold mayM at hm
  simp only [Bool.and_eq_true] at hm
  obtain ⟨hh, ⟨⟨h0, h1⟩, h2⟩, h3⟩ := hm
  have f0 := few_iff h0
  have f1 := few_iff h1
  have f2 := few_iff h2
  have f3 := few_iff h3
  unfold putSt at h
  have ho : OkS ((headS m).data.toList, []) := ⟨fun r q hq => by simp at hq, by rw [headS_len]; decide⟩
  cases a0 : stAll stQ (some ((headS m).data.toList, [])) m.qs with
  | none => rw [a0, stAll_none, stAll_none, stAll_none] at h; simp at h
  | some s0 =>
  obtain ⟨o0, ⟨e0, p0⟩, r0⟩ := all_back (get := getQ) (fun st x st' => q_back) _ _ _ f0.2 ho a0
  rw [a0] at h
  cases a1 : stAll stC (some s0) m.an with
  | none => rw [a1, stAll_none, stAll_none] at h; simp at h
  | some s1 =>
  obtain ⟨o1, ⟨e1, p1⟩, r1⟩ := all_back (get := getR) (fun st x st' => r_back) _ _ _ f1.2 o0 a1
  rw [a1] at h
  cases a2 : stAll stC (some s1) m.ns with
  | none => rw [a2, stAll_none] at h; simp at h
  | some s2 =>
  obtain ⟨o2, ⟨e2, p2⟩, r2⟩ := all_back (get := getR) (fun st x st' => r_back) _ _ _ f2.2 o1 a2
  rw [a2] at h
  obtain ⟨o3, ⟨e3, p3⟩, r3⟩ := all_back (get := getR) (fun st x st' => r_back) _ _ _ f3.2 o2 h
  have c0 : st.1 = s0.1 ++ (e1 ++ (e2 ++ e3)) := by rw [p3, p2, p1]; simp
  have c1 : st.1 = s1.1 ++ (e2 ++ e3) := by rw [p3, p2]; simp
  have hl : 12 ≤ st.1.length := by rw [c0, p0, List.length_append, List.length_append, headS_len]; omega
  refine ⟨?_, o3.2, hl⟩
  have q0 := r0 (e1 ++ (e2 ++ e3))
  have q1 := r1 (e2 ++ e3)
  have q2 := r2 e3
  have q3 := r3 []
  rw [← c0] at q0
  rw [← c1] at q1
  rw [← p3] at q2
  rw [List.append_nil] at q3
  simp only at q0
  rw [headS_len] at q0
  obtain ⟨T, hT⟩ : ∃ T : ByteArray, T = ⟨st.1.toArray⟩ := ⟨_, rfl⟩
  rw [← hT] at q0 q1 q2 q3 ⊢
  have hTs : T = headS m ++ ⟨(e0 ++ (e1 ++ (e2 ++ e3))).toArray⟩ := by
    apply ByteArray.ext
    apply Array.toList_inj.1
    rw [app_list, list_arr, hT, list_arr, c0, p0]; simp
  have hTz : T.size = st.1.length := by rw [← data_len, hT, list_arr]
  obtain ⟨n0, n1, n2, n3⟩ := cnt_back m f0.1 f1.1 f2.1 f3.1 ⟨(e0 ++ (e1 ++ (e2 ++ e3))).toArray⟩
  rw [← hTs] at n0 n1 n2 n3
  unfold getM parts part
  rw [if_pos (by omega), n0, n1, n2, n3, if_pos f0.1, q0]
  simp only
  rw [if_pos f1.1, q1]
  simp only
  rw [if_pos f2.1, q2]
  simp only
  rw [if_pos f3.1, q3]
  simp only
  rw [if_pos hTz.symm]
  rw [hTs, hd_back hh]

end Go.Proofs.Ytdogjbblnjjaaab
