/- How long a message of one name and its answers are, plainly. -/
import Derived.Test.YtcapankhobnfeaaXP14
import Derived.Test.YtcapankhobnfeaaXP11
import Derived.Test.YtcapankhobnfeaaXPeD
import Derived.Test.YtcapankhobnfeaaXWiU
namespace Go.Proofs.Ytcapankhobnfeaa
open Go.RowKit
open Pl

def abcd : ByteArray := ⟨#[97, 98, 99, 100]⟩
/-- The record, the message. -/
def cR (n : ByteArray) : Rc := ⟨n, 1, 1, 0, abcd⟩
def cM (n : ByteArray) (K : Nat) : Ms := ⟨⟨0, true, 0, false, false, false, false, 0, 0⟩, [⟨n, 1, 1⟩], List.replicate K (cR n), [], []⟩
theorem cR_may {n : ByteArray} (hn : isName n.data.toList = true) : mayR (cR n) = true := by
  unfold mayR cR
  simp only
  rw [hn]
  decide
theorem cM_may {n : ByteArray} (hn : isName n.data.toList = true) {K : Nat} (hK : K ≤ 31) : mayM (cM n K) = true := by
  have e2 : mayQ ⟨n, 1, 1⟩ = true := by unfold mayQ; simp only; rw [hn]; rfl
  have e4 : (List.replicate K (cR n)).all mayR = true := by
    rw [List.all_eq_true]
    intro x hx
    obtain ⟨_, rfl⟩ := List.mem_replicate.1 hx
    exact cR_may hn
  unfold mayM cM few
  simp only
  rw [e4, List.length_replicate, show mayHd ⟨0, true, 0, false, false, false, false, 0, 0⟩ = true from by decide]
  have : decide (K ≤ 64) = true := by simp; omega
  rw [this]
  simp [e2]
/-- How long it is. -/
theorem cM_put {n : ByteArray} (hn : isName n.data.toList = true) (h1 : n.data.toList ≠ [0]) {K : Nat} (hK : K ≤ 31) : pE (cM n K) = 0 ∧ (pT (cM n K)).size = 16 + n.size + 16 * K := by
  have h255 := (name_some hn).1
  rw [data_len] at h255
  obtain ⟨HB, hHB⟩ : ∃ HB, HB = (headS (cM n K)).data.toList := ⟨_, rfl⟩
  have hl : HB.length = 12 := by rw [hHB]; exact headS_len _
  obtain ⟨a, b⟩ := nam_fresh (B := HB) hn (by rw [hl, data_len]; omega)
  have c : namM HB [] n.data.toList = marW HB [] n.data.toList := (nam_yes (B := HB) (ms := []) hn (by rw [siz_fresh hn, hl, data_len]; omega)).2.2
  obtain ⟨q, hq⟩ := mar_has (B := HB) (ms := []) hn h1
  have hl2 : (HB ++ n.data.toList).length = 12 + n.size := by rw [List.length_append, hl, data_len]
  have e1 : stAll stQ (some (HB, [])) [⟨n, 1, 1⟩] = some (HB ++ n.data.toList ++ (qB ⟨n, 1, 1⟩).data.toList, marW HB [] n.data.toList) := by
    rw [stAll_cons, Option.bind_some]
    have h2 : stQ (HB, []) ⟨n, 1, 1⟩ = some (HB ++ n.data.toList ++ (qB ⟨n, 1, 1⟩).data.toList, marW HB [] n.data.toList) := by
      unfold stQ
      rw [stN_is a b c, Option.bind_some, stR_yes (by simp only; rw [hl2, show (qB ⟨n, 1, 1⟩).size = 4 from rfl]; omega)]
    rw [h2]
    rfl
  have hl3 : (HB ++ n.data.toList ++ (qB ⟨n, 1, 1⟩).data.toList).length = 12 + n.size + 4 := by
    rw [List.length_append, List.length_append, hl, data_len, data_len]; rfl
  obtain ⟨g1, _⟩ := stC_many (r := cR n) hn h1 hq K (HB ++ n.data.toList ++ (qB ⟨n, 1, 1⟩).data.toList) (by omega)
  rw [hl3] at g1
  have hd : (cR n).d.size = 4 := rfl
  rw [hd] at g1
  obtain ⟨B', j1, j2⟩ := g1 (by omega)
  have hp : putSt (cM n K) = some (B', marW HB [] n.data.toList) := by
    rw [put_body, ← hHB]
    show stAll stC (stAll stC (stAll stC (stAll stQ (some (HB, [])) [⟨n, 1, 1⟩]) (List.replicate K (cR n))) []) [] = _
    rw [e1, j1]
    rfl
  obtain ⟨r1, r2⟩ := p_of (cM_may hn hK) hp
  refine ⟨r1, ?_⟩
  rw [r2, j2]
  omega
theorem cut_put1 {n : ByteArray} (hn : isName n.data.toList = true) {K : Nat} (hK : K ≤ 31) (h1 : n.data.toList ≠ [0]) : pE (cutM (cM n K)) = 0 ∧ (pT (cutM (cM n K))).size = 16 + n.size := by
  have h255 := (name_some hn).1
  rw [data_len] at h255
  have hc := cut_zero (cM_put hn h1 hK).1
  refine ⟨hc, ?_⟩
  obtain ⟨HB, hHB⟩ : ∃ HB, HB = (headS (cutM (cM n K))).data.toList := ⟨_, rfl⟩
  have hl : HB.length = 12 := by rw [hHB]; exact headS_len _
  obtain ⟨a, b⟩ := nam_fresh (B := HB) hn (by rw [hl, data_len]; omega)
  have c : namM HB [] n.data.toList = marW HB [] n.data.toList := (nam_yes (B := HB) (ms := []) hn (by rw [siz_fresh hn, hl, data_len]; omega)).2.2
  have hl2 : (HB ++ n.data.toList).length = 12 + n.size := by rw [List.length_append, hl, data_len]
  have hp : putSt (cutM (cM n K)) = some (HB ++ n.data.toList ++ (qB ⟨n, 1, 1⟩).data.toList, marW HB [] n.data.toList) := by
    rw [put_body, ← hHB]
    show stAll stQ (some (HB, [])) [⟨n, 1, 1⟩] = _
    rw [stAll_cons, Option.bind_some]
    have h2 : stQ (HB, []) ⟨n, 1, 1⟩ = some (HB ++ n.data.toList ++ (qB ⟨n, 1, 1⟩).data.toList, marW HB [] n.data.toList) := by
      unfold stQ
      rw [stN_is a b c, Option.bind_some, stR_yes (by simp only; rw [hl2, show (qB ⟨n, 1, 1⟩).size = 4 from rfl]; omega)]
    rw [h2]
    rfl
  rw [(p_of (cut_may (cM_may hn hK)) hp).2]
  simp only [List.length_append, hl, data_len]
  rw [show (qB ⟨n, 1, 1⟩).size = 4 from rfl]
  omega
/-- The bit of what is cut. -/
theorem tc_bit {T : ByteArray} {m : Ms} (h : getM T = some m) (ht : m.h.tc = true) : ∃ hl : 2 < T.size, T[2].toNat / 2 % 2 = 1 := by
  unfold getM at h
  split at h
  · rename_i h12
    refine ⟨by omega, ?_⟩
    cases hp : parts T with
    | none => rw [hp] at h; simp at h
    | some x =>
      obtain ⟨⟨qs, an, ns, ar⟩, d⟩ := x
      rw [hp] at h
      simp only at h
      split at h
      · simp only [Option.some.injEq] at h
        subst h
        have h3 : (val T 2 2 / 512 % 2 == 1) = true := ht
        rw [val_two T 2 (by omega)] at h3
        simp only [beq_iff_eq] at h3
        unfold two at h3
        have := (T[2 + 1]'(by omega)).toNat_lt
        omega
      · simp at h
  · simp at h
/-- An answer without an OPT. -/
theorem cut_plain {n : ByteArray} (hn : isName n.data.toList = true) (h1 : n.data.toList ≠ [0]) {K : Nat} (hK : K ≤ 31) (b : Int) :
    (((16 + n.size + 16 * K : Nat) : Int) ≤ b → ansE (cM n K) false b = 0 ∧ (ansT (cM n K) false b).size = 16 + n.size + 16 * K) ∧
    (¬ ((16 + n.size + 16 * K : Nat) : Int) ≤ b → ((16 + n.size : Nat) : Int) ≤ b → ansE (cM n K) false b = 0 ∧ (ansT (cM n K) false b).size = 16 + n.size ∧ ∃ hl : 2 < (ansT (cM n K) false b).size, (ansT (cM n K) false b)[2].toNat / 2 % 2 = 1) ∧
    (¬ ((16 + n.size + 16 * K : Nat) : Int) ≤ b → ¬ ((16 + n.size : Nat) : Int) ≤ b → ansE (cM n K) false b = 1001) := by
  obtain ⟨a1, a2⟩ := cM_put hn h1 hK
  obtain ⟨c1, c2⟩ := cut_put1 hn hK h1
  have hr : refE (cM n K) false = 0 := by unfold refE; rw [a1]; simp
  have f1 : fitB (pT (cM n K)) (pE (cM n K)) b = decide (((16 + n.size + 16 * K : Nat) : Int) ≤ b) := by unfold fitB; rw [a1, a2]; simp
  have f2 : fitB (pT (cutM (cM n K))) (pE (cutM (cM n K))) b = decide (((16 + n.size : Nat) : Int) ≤ b) := by unfold fitB; rw [c1, c2]; simp
  have ET : ansT (cM n K) false b = if decide (((16 + n.size + 16 * K : Nat) : Int) ≤ b) = true then pT (cM n K) else if decide (((16 + n.size : Nat) : Int) ≤ b) = true then pT (cutM (cM n K)) else if decide (((16 + n.size : Nat) : Int) ≤ b) = true then pT (cutM (cM n K)) else ⟨#[]⟩ := by
    rw [← f1, ← f2]
    unfold ansT f1T f1E f2T f2E f3T f3E
    simp only [hr, if_true, Bool.false_eq_true, if_false]
  have EE : ansE (cM n K) false b = if decide (((16 + n.size + 16 * K : Nat) : Int) ≤ b) = true then 0 else if decide (((16 + n.size : Nat) : Int) ≤ b) = true then 0 else if decide (((16 + n.size : Nat) : Int) ≤ b) = true then 0 else 1001 := by
    rw [← f1, ← f2]
    unfold ansE f1T f1E f2T f2E f3T f3E
    simp only [hr, if_true, Bool.false_eq_true, if_false]
  refine ⟨fun h => ?_, fun h h' => ?_, fun h h' => ?_⟩
  · rw [decide_eq_true h, if_pos rfl] at ET EE
    rw [ET, EE]
    exact ⟨rfl, a2⟩
  · rw [decide_eq_false h, if_neg (by decide), decide_eq_true h', if_pos rfl] at ET EE
    rw [ET, EE]
    exact ⟨rfl, c2, tc_bit (p_yes c1).2.2.1 rfl⟩
  · rw [decide_eq_false h, if_neg (by decide), decide_eq_false h', if_neg (by decide), if_neg (by decide)] at EE
    exact EE
/-- An answer with an OPT. -/
theorem cut_opt {n : ByteArray} (hn : isName n.data.toList = true) (h1 : n.data.toList ≠ [0]) {K : Nat} (hK : K ≤ 31) (b : Int) {A C : Nat} (hA : A = (16 + n.size + 16 * K + 15 + 467) / 468 * 468) (hC : C = (16 + n.size + 15 + 467) / 468 * 468) :
    ((A : Int) ≤ b → ansE (cM n K) true b = 0 ∧ (ansT (cM n K) true b).size = A) ∧ (¬ (A : Int) ≤ b → (C : Int) ≤ b → ansE (cM n K) true b = 0 ∧ (ansT (cM n K) true b).size = C) ∧
    (¬ (A : Int) ≤ b → ¬ (C : Int) ≤ b → ((16 + n.size + 11 : Nat) : Int) ≤ b → ansE (cM n K) true b = 0 ∧ (ansT (cM n K) true b).size = 16 + n.size + 11) ∧
    (¬ (A : Int) ≤ b → ¬ (C : Int) ≤ b → ¬ ((16 + n.size + 11 : Nat) : Int) ≤ b → ansE (cM n K) true b = 1001 ∧ ansT (cM n K) true b = ⟨#[]⟩) := by
  have h255 := (name_some hn).1
  rw [data_len] at h255
  obtain ⟨a1, a2⟩ := cM_put hn h1 hK
  obtain ⟨c1, c2⟩ := cut_put1 hn hK h1
  have hr : refE (cM n K) true = 0 := by unfold refE; rw [a1]; simp [cM]
  have l1 := len468 (pT (cM n K)).size
  have l2 := len468 (pT (cutM (cM n K))).size
  obtain ⟨g1, _⟩ := pad_sum (b := 468) a1 (by simp [cM]) (by decide) rfl
  obtain ⟨g2, _⟩ := pad_sum (b := 468) c1 (by simp [cutM]) (by decide) rfl
  obtain ⟨g3, _⟩ := pad_with (os := []) c1 (by simp [cutM]) may_ot0
  rw [l1, a2, ← hA] at g1
  rw [l2, c2, ← hC] at g2
  rw [c2, osB_nil, List.length_nil] at g3
  obtain ⟨p1, _, p3, _⟩ := g1 (by omega)
  obtain ⟨q1, _, q3, _⟩ := g2 (by omega)
  obtain ⟨r1, r2⟩ := g3 (by omega)
  unfold ansE ansT f1T f1E f2T f2E f3T f3E
  simp only [hr, if_true]
  have f1 : fitB (qT 468 (cM n K)) (qE 468 (cM n K)) b = decide ((A : Int) ≤ b) := by unfold fitB; rw [p1, p3]; simp
  have f2 : fitB (qT 468 (cutM (cM n K))) (qE 468 (cutM (cM n K))) b = decide ((C : Int) ≤ b) := by unfold fitB; rw [q1, q3]; simp
  have f3 : fitB (pT (withO (cutM (cM n K)) [])) (pE (withO (cutM (cM n K)) [])) b = decide (((16 + n.size + 11 : Nat) : Int) ≤ b) := by unfold fitB; rw [r1, r2]; simp
  rw [f1, f2, f3]
  refine ⟨fun h => ?_, fun h h' => ?_, fun h h' h'' => ?_, fun h h' h'' => ?_⟩
  · rw [decide_eq_true h]; exact ⟨rfl, p3⟩
  · rw [decide_eq_false h, decide_eq_true h']
    simp only [Bool.false_eq_true, if_false, if_true]
    exact ⟨trivial, q3⟩
  · rw [decide_eq_false h, decide_eq_false h', decide_eq_true h'']
    simp only [Bool.false_eq_true, if_false, if_true]
    exact ⟨trivial, r2⟩
  · rw [decide_eq_false h, decide_eq_false h', decide_eq_false h'']
    simp

end Go.Proofs.Ytcapankhobnfeaa
