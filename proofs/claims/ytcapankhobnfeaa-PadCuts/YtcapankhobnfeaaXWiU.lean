/- How long a message of one name is, plainly. -/
import Derived.Test.YtcapankhobnfeaaXWiT
namespace Go.Proofs.Ytcapankhobnfeaa
open Go.RowKit
open Pl

theorem stR_yes {x : St} {s : ByteArray} (h : x.1.length + s.size ≤ 4096) : stR x s = some (x.1 ++ s.data.toList, x.2) := by unfold stR rawE rawB; rw [if_pos h, if_pos rfl, if_pos h]
theorem stR_no {x : St} {s : ByteArray} (h : ¬ x.1.length + s.size ≤ 4096) : stR x s = none := by unfold stR rawE; rw [if_neg h]; rfl
theorem stN_is {B B' : List UInt8} {ms ms' : Marks} {n : ByteArray} (a : namE B ms n.data.toList = 0) (b : namB B ms n.data.toList = B') (c : namM B ms n.data.toList = ms') : stN (B, ms) n = some (B', ms') := by unfold stN; simp only; rw [a, b, c, if_pos rfl]
theorem stN_no {B : List UInt8} {ms : Marks} {n : ByteArray} (a : namE B ms n.data.toList = 501) : stN (B, ms) n = none := by unfold stN; simp only; rw [a]; rfl
/-- The message: a question, and K records of its name with d bytes each. -/
def szM (n : ByteArray) (K d : Nat) : Ms := ⟨hdZ, [⟨n, 1, 1⟩], List.replicate K ⟨n, 999, 1, 0, zerosB d⟩, [], []⟩
theorem sz_may {n : ByteArray} (hn : isName n.data.toList = true) (K d : Nat) (hK : K ≤ 63) (hd : d ≤ 63) : mayM (szM n K d) = true := by
  have e1 : mayHd hdZ = true := by decide
  have e2 : mayQ ⟨n, 1, 1⟩ = true := by unfold mayQ; simp only; rw [hn]; rfl
  have e3 : mayR ⟨n, 999, 1, 0, zerosB d⟩ = true := by
    unfold mayR
    simp only
    rw [hn, may_o (by unfold Other; omega), data_len, zerosB_size]
    have : decide (d ≤ 65535) = true := by simp; omega
    rw [this]; decide
  have e4 : (List.replicate K (⟨n, 999, 1, 0, zerosB d⟩ : Rc)).all mayR = true := by
    rw [List.all_eq_true]
    intro x hx
    obtain ⟨_, rfl⟩ := List.mem_replicate.1 hx
    exact e3
  unfold mayM szM few
  simp only
  rw [e1, e4, List.length_replicate]
  have : decide (K ≤ 64) = true := by simp; omega
  rw [this]
  simp [e2]
/-- A name that stands already, and what is behind it. -/
theorem stC_hit {B : List UInt8} {ms : Marks} {r : Rc} {q : Nat} (hn : isName r.n.data.toList = true) (h1 : r.n.data.toList ≠ [0]) (hq : plc ms r.n.data.toList = some q) :
    (B.length + 12 + r.d.size ≤ 4096 → ∃ B', stC (B, ms) r = some (B', ms) ∧ B'.length = B.length + 12 + r.d.size) ∧ (¬ B.length + 12 + r.d.size ≤ 4096 → stC (B, ms) r = none) := by
  have hz : (rB r ++ r.d).size = 10 + r.d.size := by
    unfold rB
    simp only [ByteArray.size_append, size2]
    rw [show (be4 r.l).size = 4 from rfl]
  have hsp := spl_hit hn h1 hq
  have hsw : sizW ms r.n.data.toList = 2 := by unfold sizW; rw [hsp]; rfl
  constructor
  · intro hf
    obtain ⟨a, b, c⟩ := nam_hit (B := B) hn h1 hq (by omega)
    refine ⟨B ++ ptrB q ++ (rB r ++ r.d).data.toList, ?_, ?_⟩
    · have hl : (B ++ ptrB q).length = B.length + 2 := by rw [List.length_append]; rfl
      unfold stC
      rw [stN_is a b c, Option.bind_some, stR_yes (by simp only; rw [hl, hz]; omega)]
    · rw [List.length_append, List.length_append, data_len, hz]
      show B.length + 2 + (10 + r.d.size) = _
      omega
  · intro hf
    by_cases h2 : B.length + 2 ≤ 4096
    · obtain ⟨a, b, c⟩ := nam_hit (B := B) hn h1 hq h2
      have hl : (B ++ ptrB q).length = B.length + 2 := by rw [List.length_append]; rfl
      unfold stC
      rw [stN_is a b c, Option.bind_some, stR_no (by simp only; rw [hl, hz]; omega)]
    · obtain ⟨a, b, c⟩ := nam_long (B := B) (ms := ms) hn (by rw [hsw]; exact h2)
      unfold stC
      rw [stN_no a]
      rfl
theorem stC_many {ms : Marks} {r : Rc} {q : Nat} (hn : isName r.n.data.toList = true) (h1 : r.n.data.toList ≠ [0]) (hq : plc ms r.n.data.toList = some q) : ∀ (K : Nat) (B : List UInt8), B.length ≤ 4096 →
    (B.length + K * (12 + r.d.size) ≤ 4096 → ∃ B', stAll stC (some (B, ms)) (List.replicate K r) = some (B', ms) ∧ B'.length = B.length + K * (12 + r.d.size)) ∧ (¬ B.length + K * (12 + r.d.size) ≤ 4096 → stAll stC (some (B, ms)) (List.replicate K r) = none) := by
  intro K
  induction K with
  | zero => intro B hB; exact ⟨fun _ => ⟨B, rfl, by simp⟩, fun h => by simp at h; omega⟩
  | succ K ih =>
    intro B hB
    obtain ⟨g1, g2⟩ := stC_hit (B := B) hn h1 hq
    rw [List.replicate_succ, stAll_cons, Option.bind_some, Nat.succ_mul]
    by_cases hf : B.length + 12 + r.d.size ≤ 4096
    · obtain ⟨B', e1, e2⟩ := g1 hf
      obtain ⟨i1, i2⟩ := ih B' (by omega)
      rw [e1]
      constructor
      · intro h
        obtain ⟨B2, j1, j2⟩ := i1 (by omega)
        exact ⟨B2, j1, by omega⟩
      · intro h
        exact i2 (by omega)
    · rw [g2 hf, stAll_none]
      exact ⟨fun h => by omega, fun _ => rfl⟩
/-- How long it is. -/
theorem sz_put {n : ByteArray} (hn : isName n.data.toList = true) (h1 : n.data.toList ≠ [0]) (K d : Nat) :
    (12 + n.size + 4 + K * (12 + d) ≤ 4096 → ∃ st, putSt (szM n K d) = some st ∧ st.1.length = 12 + n.size + 4 + K * (12 + d)) ∧ (¬ 12 + n.size + 4 + K * (12 + d) ≤ 4096 → putSt (szM n K d) = none) := by
  have h255 := (name_some hn).1
  rw [data_len] at h255
  unfold putSt
  obtain ⟨HB, hHB⟩ : ∃ HB, HB = (headS (szM n K d)).data.toList := ⟨_, rfl⟩
  have hl : HB.length = 12 := by rw [hHB]; exact headS_len _
  rw [← hHB]
  obtain ⟨a, b⟩ := nam_fresh (B := HB) hn (by rw [hl, data_len]; omega)
  have c : namM HB [] n.data.toList = marW HB [] n.data.toList := (nam_yes (B := HB) (ms := []) hn (by rw [siz_fresh hn, hl, data_len]; omega)).2.2
  obtain ⟨q, hq⟩ := mar_has (B := HB) (ms := []) hn h1
  have e1 : stAll stQ (some (HB, [])) (szM n K d).qs = some (HB ++ n.data.toList ++ (qB ⟨n, 1, 1⟩).data.toList, marW HB [] n.data.toList) := by
    show stAll stQ (some (HB, [])) [⟨n, 1, 1⟩] = _
    rw [stAll_cons, Option.bind_some]
    have hl2 : (HB ++ n.data.toList).length = 12 + n.size := by rw [List.length_append, hl, data_len]
    have hz : (qB ⟨n, 1, 1⟩).size = 4 := rfl
    have h2 : stQ (HB, []) ⟨n, 1, 1⟩ = some (HB ++ n.data.toList ++ (qB ⟨n, 1, 1⟩).data.toList, marW HB [] n.data.toList) := by
      unfold stQ
      rw [stN_is a b c, Option.bind_some, stR_yes (by simp only; rw [hl2, hz]; omega)]
    rw [h2]
    rfl
  rw [e1]
  have hl3 : (HB ++ n.data.toList ++ (qB ⟨n, 1, 1⟩).data.toList).length = 12 + n.size + 4 := by
    rw [List.length_append, List.length_append, hl, data_len, data_len]; rfl
  obtain ⟨g1, g2⟩ := stC_many (r := ⟨n, 999, 1, 0, zerosB d⟩) hn h1 hq K (HB ++ n.data.toList ++ (qB ⟨n, 1, 1⟩).data.toList) (by omega)
  simp only [zerosB_size] at g1 g2
  rw [hl3] at g1 g2
  constructor
  · intro h
    obtain ⟨B', j1, j2⟩ := g1 h
    exact ⟨(B', _), by show stAll stC (stAll stC (stAll stC _ (List.replicate K _)) []) [] = _; rw [j1]; rfl, j2⟩
  · intro h
    show stAll stC (stAll stC (stAll stC _ (List.replicate K _)) []) [] = _
    rw [g2 h]; rfl

end Go.Proofs.Ytcapankhobnfeaa
