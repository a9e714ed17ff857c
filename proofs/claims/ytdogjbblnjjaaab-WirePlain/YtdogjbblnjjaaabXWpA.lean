/- A message whose names are not compressed, plainly: it is read, and it is written no longer. -/
import Derived.Test.YtdogjbblnjjaaabXP15
namespace Go.Proofs.Ytdogjbblnjjaaab
open Go.RowKit
open Pl

/-- A question, a record that stand as they are are read. -/
theorem q_plain {q : Qn} (hq : mayQ q = true) {s : ByteArray} {a y : List UInt8} (hs : s.data.toList = a ++ (q.n.data.toList ++ ((qB q).data.toList ++ y))) : getQ s a.length = some (q, a.length + q.n.size + 4) := by
  unfold mayQ at hq
  simp only [Bool.and_eq_true, decide_eq_true_eq] at hq
  obtain ⟨⟨hn, ht⟩, hc⟩ := hq
  obtain ⟨A, hA⟩ : ∃ A, A = a ++ q.n.data.toList := ⟨_, rfl⟩
  have hAl : A.length = a.length + q.n.size := by rw [hA, List.length_append, data_len]
  have hsl : s.data.toList = A ++ ([oct q.t 256, oct q.t 1, oct q.c 256, oct q.c 1] ++ y) := by
    rw [hs, hA]
    unfold qB
    rw [app_list, be2_list, be2_list]
    simp
  have hsz : A.length + 4 ≤ s.size := by rw [← data_len, hsl]; simp
  have hnm : nameOf s.data.toList a.length = some (q.n.data.toList, A.length) := by rw [hs, name_whole hn, hAl, data_len]
  unfold getQ
  rw [hnm]
  simp only
  have v1 : val s A.length 2 = q.t := by
    rw [val_of (s := s) (k := A.length) (a := oct q.t 256) (b := oct q.t 1) (rest := [oct q.c 256, oct q.c 1] ++ y) (by rw [hsl, List.drop_left]; rfl), two_be]; omega
  have v2 : val s (A.length + 2) 2 = q.c := by
    rw [val_of (s := s) (k := A.length + 2) (a := oct q.c 256) (b := oct q.c 1) (rest := y) (by rw [hsl, ← List.drop_drop, List.drop_left]; rfl), two_be, in16 hc]
  rw [v1, v2, if_pos ⟨hsz, by omega⟩, hAl, arr_list]

theorem r_plain {r : Rc} (hr : mayR r = true) {s : ByteArray} {a y : List UInt8} (hs : s.data.toList = a ++ (r.n.data.toList ++ ((rB r).data.toList ++ (r.d.data.toList ++ y)))) : getR s a.length = some (r, a.length + r.n.size + 10 + r.d.size) := by
  unfold mayR at hr
  simp only [Bool.and_eq_true] at hr
  obtain ⟨⟨⟨hn, hc⟩, hl⟩, hd⟩ := hr
  have ht := may_top hd
  rw [data_len] at ht
  have hrl : (rB r).data.toList = [oct r.t 256, oct r.t 1, oct r.c 256, oct r.c 1, oct r.l 16777216, oct r.l 65536, oct r.l 256, oct r.l 1, oct (r.d.size : Int) 256, oct (r.d.size : Int) 1] := by
    unfold rB
    rw [app_list, app_list, app_list, be2_list, be2_list, be2_list, be4_list]; rfl
  obtain ⟨A, hA⟩ : ∃ A, A = a ++ r.n.data.toList := ⟨_, rfl⟩
  have hAl : A.length = a.length + r.n.size := by rw [hA, List.length_append, data_len]
  have hsl : s.data.toList = A ++ ((rB r).data.toList ++ (r.d.data.toList ++ y)) := by rw [hs, hA, List.append_assoc]
  have hsz : A.length + 10 + r.d.size ≤ s.size := by rw [← data_len s, hsl, List.length_append, List.length_append, List.length_append, hrl, data_len]; simp; omega
  unfold getR
  have v1 : val s A.length 2 = r.t := by
    rw [val_of (s := s) (k := A.length) (by rw [hsl, List.drop_left, hrl]; rfl), two_be]; omega
  have v2 : val s (A.length + 2) 2 = r.c := by
    rw [val_of (s := s) (k := A.length + 2) (by rw [hsl, ← List.drop_drop, List.drop_left, hrl]; rfl), two_be, in16 hc]
  have v3 : val s (A.length + 4) 4 = r.l := by
    rw [val4_of (s := s) (k := A.length + 4) (by rw [hsl, ← List.drop_drop, List.drop_left, hrl]; rfl), four_be, in32 hl]
  have v4 : val s (A.length + 8) 2 = (r.d.size : Int) := by
    rw [val_of (s := s) (k := A.length + 8) (by rw [hsl, ← List.drop_drop, List.drop_left, hrl]; rfl), two_be]; omega
  have hdt : dataOf s.data.toList (A.length + 10) r.d.size r.t = some r.d.data.toList := by
    have := data_whole hd (A ++ (rB r).data.toList) y
    rw [List.length_append, hrl, data_len, ← hrl, List.append_assoc, ← hsl] at this
    exact this
  have hnm : nameOf s.data.toList a.length = some (r.n.data.toList, A.length) := by rw [hs, name_whole hn, hAl, data_len]
  rw [hnm]
  simp only
  rw [v1, v2, v3, v4]
  simp only [Int.toNat_natCast]
  rw [if_pos hsz, hdt]
  simp only
  rw [arr_list, arr_list, hAl]

/-- The message. -/
def pH : Hd := ⟨5, false, 0, false, false, false, false, 0, 0⟩
def pQ (n : ByteArray) : Qn := ⟨n, 999, 1⟩
def pR (n d : ByteArray) (k : Int) : Rc := ⟨n, 999, 1, k, d⟩
def pM (n d : ByteArray) (k : Int) : Ms := ⟨pH, [pQ n], [pR n d k, pR n d k], [], []⟩
theorem p_head (n d : ByteArray) (k : Int) : headS (pM n d k) = ⟨#[0, 5, 0, 0, 0, 1, 0, 2, 0, 0, 0, 0]⟩ := by
  have : headS (pM n d k) = putS 5 (wordH false 0 false false false false 0 0) 1 2 0 0 4 := rfl
  rw [this]
  decide +kernel
theorem p_mayQ {n : ByteArray} (hn : isName n.data.toList = true) : mayQ (pQ n) = true := by
  unfold mayQ pQ; simp only [hn]; rfl
theorem p_mayR {n d : ByteArray} {k : Int} (hn : isName n.data.toList = true) (hd : d.size ≤ 300) (hk : 0 ≤ k ∧ k ≤ 4294967295) : mayR (pR n d k) = true := by
  unfold mayR pR
  have h1 : inB 4294967295 k = true := by unfold inB; simp; omega
  have h2 : mayD 999 d.data.toList = true := by
    rw [may_o (by unfold Other; omega), data_len]
    simp; omega
  simp only [hn, h1, h2]
  decide
theorem p_may {n d : ByteArray} {k : Int} (hn : isName n.data.toList = true) (hd : d.size ≤ 300) (hk : 0 ≤ k ∧ k ≤ 4294967295) : mayM (pM n d k) = true := by
  unfold mayM few pM
  simp [p_mayQ hn, p_mayR hn hd hk]
  decide +kernel

theorem p_get {n d T : ByteArray} {k : Int} (hn : isName n.data.toList = true) (hd : d.size ≤ 300) (hk : 0 ≤ k ∧ k ≤ 4294967295) {H : List UInt8} (hH : H = [0, 5, 0, 0, 0, 1, 0, 2, 0, 0, 0, 0])
    (hT : T.data.toList = H ++ (n.data.toList ++ ((qB (pQ n)).data.toList ++ (n.data.toList ++ ((rB (pR n d k)).data.toList ++ (d.data.toList ++ (n.data.toList ++ ((rB (pR n d k)).data.toList ++ (d.data.toList ++ []))))))))) :
    getM T = some (pM n d k) ∧ T.size = 12 + (n.size + 4) + (n.size + 10 + d.size) + (n.size + 10 + d.size) := by
  have hl0 : H.length = 12 := by rw [hH]; rfl
  have hlq : (qB (pQ n)).data.toList.length = 4 := by unfold qB; rw [app_list, be2_list, be2_list]; rfl
  have hlr : (rB (pR n d k)).data.toList.length = 10 := by unfold rB; rw [app_list, app_list, app_list, be2_list, be2_list, be2_list, be4_list]; rfl
  have hsz : T.size = 12 + (n.size + 4) + (n.size + 10 + d.size) + (n.size + 10 + d.size) := by
    rw [← data_len, hT]
    simp only [List.length_append, hl0, hlq, hlr, data_len, List.length_nil]
    omega
  refine ⟨?_, hsz⟩
  have g0 := q_plain (p_mayQ hn) (s := T) (a := H) hT
  have hT1 : T.data.toList = (H ++ (n.data.toList ++ (qB (pQ n)).data.toList)) ++ (n.data.toList ++ ((rB (pR n d k)).data.toList ++ (d.data.toList ++ (n.data.toList ++ ((rB (pR n d k)).data.toList ++ (d.data.toList ++ [])))))) := by rw [hT]; simp only [List.append_assoc]
  have g1 := r_plain (p_mayR hn hd hk) (s := T) hT1
  have hT2 : T.data.toList = (H ++ (n.data.toList ++ ((qB (pQ n)).data.toList ++ (n.data.toList ++ ((rB (pR n d k)).data.toList ++ d.data.toList))))) ++ (n.data.toList ++ ((rB (pR n d k)).data.toList ++ (d.data.toList ++ []))) := by rw [hT]; simp only [List.append_assoc]
  have g2 := r_plain (p_mayR hn hd hk) (s := T) hT2
  simp only [List.length_append, hl0, hlq, hlr, data_len] at g0 g1 g2
  have hTs : T = headS (pM n d k) ++ ⟨(T.data.toList.drop 12).toArray⟩ := by
    apply ByteArray.ext
    apply Array.toList_inj.1
    rw [app_list, list_arr, p_head, hT, ← hl0, List.drop_left, hH]
  obtain ⟨n0, n1, n2, n3⟩ := cnt_back (pM n d k) (by show 1 ≤ 64; decide) (by show 2 ≤ 64; decide) (by show 0 ≤ 64; decide) (by show 0 ≤ 64; decide) ⟨(T.data.toList.drop 12).toArray⟩
  rw [← hTs] at n0 n1 n2 n3
  have hh := hd_back (m := pM n d k) (by show mayHd pH = true; decide +kernel) ⟨(T.data.toList.drop 12).toArray⟩
  rw [← hTs] at hh
  have n0' : cnt T 0 = 1 := n0
  have n1' : cnt T 1 = 2 := n1
  have n2' : cnt T 2 = 0 := n2
  have n3' : cnt T 3 = 0 := n3
  have a0 : getAll (getQ T) 12 1 = some ([pQ n], 12 + n.size + 4) := getAll_cons g0 rfl
  have e1 : 12 + (n.size + 4) = 12 + n.size + 4 := by omega
  rw [e1] at g1
  have e2 : 12 + (n.size + (4 + (n.size + (10 + d.size)))) = 12 + n.size + 4 + (pR n d k).n.size + 10 + (pR n d k).d.size := by unfold pR; simp only; omega
  rw [e2] at g2
  have a1 : getAll (getR T) (12 + n.size + 4) 2 = some ([pR n d k, pR n d k], 12 + n.size + 4 + (pR n d k).n.size + 10 + (pR n d k).d.size + (pR n d k).n.size + 10 + (pR n d k).d.size) := getAll_cons g1 (getAll_cons g2 rfl)
  unfold getM parts part
  rw [if_pos (by omega), n0', n1', n2', n3', if_pos (by decide), a0]
  simp only
  rw [if_pos (by decide), a1]
  simp only
  rw [if_pos (by decide)]
  simp only [getAll]
  rw [if_pos (by decide)]
  simp only
  rw [if_pos (by rw [hsz]; unfold pR; simp only; omega), hh]
  rfl

/-- What is written is no longer. -/
theorem n_short {st : St} {n : ByteArray} (hn : isName n.data.toList = true) (h : st.1.length + n.size ≤ 4096) : ∃ st', stN st n = some st' ∧ st'.1.length ≤ st.1.length + n.size := by
  have h1 := siz_le (ms := st.2) hn
  rw [data_len] at h1
  obtain ⟨a, b, _⟩ := nam_yes (B := st.1) (ms := st.2) hn (by omega)
  refine ⟨_, by unfold stN; rw [if_pos a], ?_⟩
  simp only
  rw [b, outW_len hn]
  omega
theorem raw_short {st : St} {s : ByteArray} (h : st.1.length + s.size ≤ 4096) : ∃ st', stR st s = some st' ∧ st'.1.length = st.1.length + s.size := by
  refine ⟨(st.1 ++ s.data.toList, st.2), by unfold stR rawE rawB; rw [if_pos h, if_pos rfl, if_pos h], ?_⟩
  simp only
  rw [List.length_append, data_len]
theorem p_put {n d : ByteArray} {k : Int} (hn : isName n.data.toList = true) (hd : d.size ≤ 300) (hk : 0 ≤ k ∧ k ≤ 4294967295) :
    ∃ T : ByteArray, putV (pM n d k) = .tuple #[.string T, .int .i64 0] ∧ T.size ≤ 12 + (n.size + 4) + (n.size + 10 + d.size) + (n.size + 10 + d.size) := by
  have hns : n.size ≤ 255 := by have := (name_some hn).1; rw [data_len] at this; omega
  have hq : (qB (pQ n)).size = 4 := by unfold qB; rw [ByteArray.size_append, size2, size2]
  have hr : (rB (pR n d k) ++ d).size = 10 + d.size := by
    rw [ByteArray.size_append]
    congr 1
  have hh : (headS (pM n d k)).data.toList.length = 12 := headS_len _
  obtain ⟨s1, a1, b1⟩ := n_short (st := ((headS (pM n d k)).data.toList, [])) hn (by simp only; omega)
  simp only at b1
  obtain ⟨s2, a2, b2⟩ := raw_short (st := s1) (s := qB (pQ n)) (by omega)
  obtain ⟨s3, a3, b3⟩ := n_short (st := s2) hn (by omega)
  obtain ⟨s4, a4, b4⟩ := raw_short (st := s3) (s := rB (pR n d k) ++ d) (by omega)
  obtain ⟨s5, a5, b5⟩ := n_short (st := s4) hn (by omega)
  obtain ⟨s6, a6, b6⟩ := raw_short (st := s5) (s := rB (pR n d k) ++ d) (by omega)
  have e : putSt (pM n d k) = some s6 := by
    have q1 : stQ ((headS (pM n d k)).data.toList, []) (pQ n) = some s2 := by
      unfold stQ
      rw [show (pQ n).n = n from rfl, a1]
      exact a2
    have q2 : stC s2 (pR n d k) = some s4 := by
      unfold stC
      rw [show (pR n d k).n = n from rfl, a3]
      exact a4
    have q3 : stC s4 (pR n d k) = some s6 := by
      unfold stC
      rw [show (pR n d k).n = n from rfl, a5]
      exact a6
    unfold putSt
    show stAll stC (stAll stC (stAll stC (stAll stQ (some ((headS (pM n d k)).data.toList, [])) [pQ n]) [pR n d k, pR n d k]) []) [] = some s6
    have r1 : stAll stQ (some ((headS (pM n d k)).data.toList, [])) [pQ n] = some s2 := by rw [stAll_cons, Option.bind_some, q1]; rfl
    have r2 : stAll stC (some s2) [pR n d k, pR n d k] = some s6 := by rw [stAll_cons, Option.bind_some, q2, stAll_cons, Option.bind_some, q3]; rfl
    rw [r1, r2]
    rfl
  refine ⟨⟨s6.1.toArray⟩, by rw [putV_yes (p_may hn hd hk), e]; rfl, ?_⟩
  rw [toArr_size]
  omega

/-- The bytes, as they are put together. -/
def pS (n : ByteArray) : ByteArray := ⟨#[0, 5, 0, 0, 0, 1, 0, 2, 0, 0, 0, 0]⟩ ++ n ++ ⟨#[3, 231, 0, 1]⟩
def p6 (d : ByteArray) (k : Int) : ByteArray := ⟨[oct k 16777216, oct k 65536, oct k 256, oct k 1, oct (d.size : Int) 256, oct (d.size : Int) 1].toArray⟩
def pO (n d : ByteArray) (k : Int) : ByteArray := n ++ ⟨#[3, 231, 0, 1]⟩ ++ p6 d k ++ d
theorem p_bytes (n d : ByteArray) (k : Int) : (pS n ++ pO n d k ++ pO n d k).data.toList = [0, 5, 0, 0, 0, 1, 0, 2, 0, 0, 0, 0] ++ (n.data.toList ++ ((qB (pQ n)).data.toList ++ (n.data.toList ++ ((rB (pR n d k)).data.toList ++ (d.data.toList ++ (n.data.toList ++ ((rB (pR n d k)).data.toList ++ (d.data.toList ++ [])))))))) := by
  have h1 : (qB (pQ n)).data.toList = [3, 231, 0, 1] := by unfold qB pQ; rw [app_list, be2_list, be2_list]; rfl
  have h2 : (rB (pR n d k)).data.toList = [3, 231, 0, 1] ++ (p6 d k).data.toList := by
    unfold rB pR p6
    rw [app_list, app_list, app_list, be2_list, be2_list, be2_list, be4_list, list_arr]
    rfl
  rw [h1, h2]
  unfold pS pO
  simp only [app_list, List.append_assoc, List.append_nil]
theorem rrow_two {w : World} {g : Nat} {r : Rc} (h : Blk w g (rV r ++ rV r).toArray 25) (hs : r.n.size ≤ 100000) (hd : r.d.size ≤ 100000) : RRow w (.slice (some ⟨g, 0, none⟩) 2 2) [r, r] :=
  ⟨Row.of_blk h (by simp [rC]) 2 2, by show 2 ≤ maxLen; exact small100 (by decide), fun x hx => by simp at hx; subst hx; exact ⟨small100 hs, small100 hd⟩⟩

end Go.Proofs.Ytdogjbblnjjaaab
