/- New of a Cuts. -/
import Derived.Test.YtnjgdfmldjgloaaGreatXP12
namespace Go.Proofs.YtnjgdfmldjgloaaGreat
open Go.RowKit
open Pl
namespace Cu

/-- A hint. -/
structure Hn where
  h : ByteArray
  a : Int
def hnV (x : Hn) : List Value := [.string x.h, .int .i64 x.a]
def hnC (xs : List Hn) : List Value := xs.flatMap hnV
def hnOk (x : Hn) : Bool := isName x.h.data.toList && wideB x.a
def hintsOk (hs : List Hn) : Bool := decide (1 ≤ hs.length) && decide (hs.length ≤ 8) && hs.all hnOk
def addH (acc : List ByteArray) (x : Hn) : List ByteArray := if 0 ≤ posL acc (fdB x.h) then acc else acc ++ [fdB x.h]
def hostsN (hs : List Hn) : List ByteArray := hs.foldl addH []
def hintB (x : Hn) : Bn := ⟨rootB, fdB x.h, x.a, rootB, 0⟩
def bindsN (hs : List Hn) : List Bn := hs.map hintB

theorem isWrongHint_any (x : Hn) (w : World) (hx : x.h.size ≤ maxLen) (b : Bool) (hb : hnOk x = b) :
    Calls Tryz.prog 31 #[.agg #[.string x.h, .int .i64 x.a]] w fun e w' => e = .returned (.bool (!b)) ∧ Below w.heap.size w w' := by
  obtain ⟨n, a⟩ := x
  simp only at hx ⊢
  unfold hnOk at hb
  simp only at hb
  have hb0 : Below w.heap.size w (w.alloc (.cells #[.string n, .int .i64 a] 56)) := lay (Below.refl _ _) _
  have HB0 : Hid (Below w.heap.size w (w.alloc (.cells #[.string n, .int .i64 a] 56))) := hb0
  have hma := fun v => mayAddr_any a v
  clear hb0
  cases h1 : isName n.data.toList with
  | false =>
    rw [h1] at hb
    simp only [Bool.false_and] at hb
    subst hb
    go_enter Tryz.func31, Tryz.ntmps31
    go_wp2_with (go_at_call 67; go_must (refine (may_as n false _ hx h1).mono ?_); rintro e w' ⟨rfl, hw⟩; obtain rfl := hw.symm)
    go_ret
    exact ⟨rfl, HB0.out⟩
  | true =>
    rw [h1] at hb
    simp only [Bool.true_and] at hb
    rw [hb] at hma
    go_enter Tryz.func31, Tryz.ntmps31
    go_wp2_with (first
      | (go_at_call 67; go_must (refine (may_as n true _ hx h1).mono ?_); rintro e w' ⟨rfl, hw⟩; obtain rfl := hw.symm)
      | (go_at_call 52; go_must (refine (hma _).mono ?_); rintro e w' ⟨rfl, hw⟩; obtain rfl := hw.symm))
    go_ret
    exact ⟨rfl, HB0.out⟩
def wrongF : Value := .func (.func 31) #[] #[]
set_option maxRecDepth 20000 in
theorem hintIdx_any (v : Value) (hs : List Hn) (w : World) (hr : Row w v hs.length (hnC hs)) (hl : hs.length ≤ maxLen) (hss : ∀ x ∈ hs, x.h.size ≤ maxLen) :
    Calls Tryz.prog 66 #[v, wrongF] w fun e w' => ∃ k : Int, e = .returned (.int .i64 k) ∧ Hid (decide (0 ≤ k) = !hs.all hnOk) ∧ Below w.heap.size w w' := by
  unfold wrongF
  obtain ⟨n, hn⟩ : ∃ n, n = hs.length := ⟨_, rfl⟩
  rw [← hn] at hr hl
  unfold maxLen at hl
  have HN : Hid (n = hs.length) := hn
  have HR : Hid (Row w v n (hnC hs)) := hr
  have HSS : Hid (∀ x ∈ hs, x.h.size ≤ maxLen) := hss
  obtain ⟨x0, c0, rfl, _⟩ := hr.src
  clear hr hn hss
  go_enter Tryz.func66, Tryz.ntmps66
  go_wp2
  go_loopw [8] (fun k wr => ∃ j : Nat, j ≤ n ∧ k = .int .i64 (j : Int) ∧ Hid (∀ i (hi : i < hs.length), i < j → hnOk hs[i] = true) ∧ Hid (Below w.heap.size w wr)) (fun k _ => n - (intOf k).toNat)
  case atStart => exact ⟨0, Nat.zero_le _, rfl, fun i _ h => by omega, Below.refl _ _⟩
  case round =>
    obtain ⟨j, hj, rfl, HB, HW⟩ := hrel
    by_cases hjn : j < n
    · have hjn' : (j : Int) < (n : Int) := by omega
      have hju : j < hs.length := by have := HN.out; omega
      obtain ⟨g, o, cap, hx, hc⟩ := row_at (HR.out.below HW.out) (by omega)
      simp only [Value.slice.injEq] at hx
      obtain ⟨rfl, -, rfl⟩ := hx
      obtain ⟨⟨pn, pa⟩, hp⟩ : ∃ p, p = hs[j] := ⟨_, rfl⟩
      have hfl := fun i hi => flat_get (f := hnV) (z := 2) (fun _ => rfl) hs j hju i hi
      rw [← hp] at hfl
      have d0 := hc (j * 2 + 0) _ (hfl 0 (by omega))
      have d1 := hc (j * 2 + 1) _ (hfl 1 (by omega))
      simp only [Nat.add_zero, ← Nat.add_assoc] at d0 d1
      have HQ : Hid ((⟨pn, pa⟩ : Hn) = hs[j]) := hp
      have hpl : pn.size ≤ maxLen := by have := HSS.out _ (List.getElem_mem hju); rw [← hp] at this; exact this
      clear hc hp hfl
      cases hs2 : hnOk ⟨pn, pa⟩ with
      | false =>
        have HF : Hid (decide (0 ≤ (j : Int)) = !hs.all hnOk) := by
          unfold Hid
          rw [decide_eq_true (by omega), show hs.all hnOk = false from by rw [List.all_eq_false]; exact ⟨hs[j], List.getElem_mem _, by rw [← HQ.out, hs2]; simp⟩]
          rfl
        go_wp2_with (go_at_call 31; go_must (refine (isWrongHint_any ⟨pn, pa⟩ _ hpl false hs2).mono ?_); rintro e w1 ⟨rfl, b1⟩)
        go_ret
        exact ⟨_, rfl, HF, next HW.out b1⟩
      | true =>
        have HB2 : Hid (∀ i (hi : i < hs.length), i < j + 1 → hnOk hs[i] = true) := fun i hi hij => by
          by_cases he : i = j
          · subst he; rw [← HQ.out]; exact hs2
          · exact HB.out i hi (by omega)
        go_wp2_with (go_at_call 31; go_must (refine (isWrongHint_any ⟨pn, pa⟩ _ hpl true hs2).mono ?_); rintro e w1 ⟨rfl, b1⟩)
        go_roundw
        case rel => exact ⟨j + 1, by omega, by go_num, HB2, next HW.out b1⟩
        case measure => simp [intOf]; omega
    · have hjn' : decide (j < n) = false := by simpa using hjn
      have HF : Hid (decide (0 ≤ (-1 : Int)) = !hs.all hnOk) := by
        unfold Hid
        rw [decide_eq_false (by omega), show hs.all hnOk = true from by
          rw [List.all_eq_true]
          intro x hx
          obtain ⟨i, hi, rfl⟩ := List.getElem_of_mem hx
          exact HB.out i hi (by have := HN.out; omega)]
        rfl
      go_wp2
      go_ret
      exact ⟨_, rfl, HF, HW.out⟩
theorem hintCon_any (v : Value) (hs : List Hn) (w : World) (hr : Row w v hs.length (hnC hs)) (hl : hs.length ≤ maxLen) (hss : ∀ x ∈ hs, x.h.size ≤ maxLen) :
    Calls Tryz.prog 30 #[v, wrongF] w fun e w' => e = .returned (.bool (!hs.all hnOk)) ∧ Below w.heap.size w w' := by
  have hc := hintIdx_any v hs w hr hl hss
  obtain ⟨x0, c0, rfl, _⟩ := hr.src
  unfold wrongF at hc ⊢
  go_enter Tryz.func30, Tryz.ntmps30
  go_wp2_with (go_at_call 66; go_must (refine hc.mono ?_); rintro e w1 ⟨k, rfl, HK, b1⟩)
  go_ret
  exact ⟨ret_bool HK.out, b1⟩

theorem hostsN_take {hs : List Hn} {j : Nat} (hj : j < hs.length) : hostsN (hs.take (j + 1)) = addH (hostsN (hs.take j)) hs[j] := by
  unfold hostsN
  rw [List.take_succ_eq_append_getElem hj, List.foldl_append]
  rfl
theorem hostsN_len (hs : List Hn) (j : Nat) : (hostsN (hs.take j)).length ≤ j := by
  induction j with
  | zero => simp [hostsN]
  | succ j ih =>
    by_cases hj : j < hs.length
    · rw [hostsN_take hj]
      unfold addH
      split
      · omega
      · simp; omega
    · rw [List.take_of_length_le (by omega)]
      rw [List.take_of_length_le (by omega)] at ih
      omega
theorem bindsN_take {hs : List Hn} {j : Nat} (hj : j < hs.length) : bindsN (hs.take (j + 1)) = bindsN (hs.take j) ++ [hintB hs[j]] := by
  unfold bindsN
  rw [List.take_succ_eq_append_getElem hj, List.map_append]
  rfl
/-- A host more; a binding more. -/
theorem st_host {w w1 w2 : World} {o : OB} {H : List ByteArray} {B : List Bn} (h : St w o H B []) (hb1 : Below w.heap.size w w1) {v' : Value} {f : ByteArray} (ow : w2.ownsRow 0 9 1 v' (H.length + 1) (tC H ++ [.string f])) (hg : w1.grownBy w2 o.hv.ownBlock) (hv' : ∀ k, v'.ownBlock = some k → o.hv.ownBlock = some k ∨ w.heap.size ≤ k) (hlen : H.length + 1 ≤ 8) (hf : f.size ≤ 255) :
    St (w2.setCell ⟨o.gs, 0, none⟩ v') { o with hv := v' } (H ++ [f]) B [] ∧ Turn (ofoot o []) w (w2.setCell ⟨o.gs, 0, none⟩ v') ∧ ∀ k, ofoot { o with hv := v' } [] k → ofoot o [] k ∨ w.heap.size ≤ k := by
  have h1 := h.below hb1
  have t1 : o.hv.ownBlock ≠ some o.gs := fun e => absurd (own_tag h1.rest.hosts e h1.rest.blk) (by decide)
  have t2 : o.bv.ownBlock ≠ some o.gs := fun e => absurd (own_tag h1.rest.hints e h1.rest.blk) (by decide)
  have T2 : Turn (fun k => o.hv.ownBlock = some k) w1 w2 := Turn.of_grown hg (fun k e => e)
  have T3 : Turn (fun k => k = o.gs) w2 (w2.setCell ⟨o.gs, 0, none⟩ v') := Turn.of_set (S := fun k => k = o.gs) w2 (p := ⟨o.gs, 0, none⟩) rfl v'
  have hv'g : ∀ k, v'.ownBlock = some k → k ≠ o.gs := fun k hk e => by
    subst e
    exact absurd (own_tag ow hk (T2.blk h1.rest.blk t1)) (by decide)
  refine ⟨⟨⟨?_, ?_, ?_, fun p hp => by simp at hp, List.Pairwise.nil⟩, ?_, by simp, ?_⟩, ?_, ?_⟩
  · exact (T2.blk h1.rest.blk t1).set 0 v'
  · show (w2.setCell _ _).ownsRow 0 9 1 v' (H ++ [f]).length (tC (H ++ [f]))
    rw [List.length_append, tC_app]
    exact T3.row ow (fun k hk e => hv'g k hk e)
  · exact T3.row (T2.row h1.rest.hints (fun k hk => own_far h1.rest.hints h1.rest.hosts (by decide) k hk)) (fun k hk e => t2 (by rw [hk, e]))
  · refine (h1.at'.turn T2 (fun b e hk => ?_)).turn T3 (fun b e hk => ?_)
    · obtain ⟨es, clock, hb⟩ := h1.at'.is_map b e
      exact h1.rest.not_map (.inr (.inl hk)) hb rfl
    · obtain ⟨es, clock, hb⟩ := h1.at'.is_map b e
      exact h1.rest.not_map (.inl hk) hb rfl
  · refine ⟨by rw [List.length_append]; exact hlen, fun x hx => ?_, h.hok.2.2⟩
    rcases List.mem_append.1 hx with hx | hx
    · exact h.hok.2.1 x hx
    · simp at hx; subst hx; exact hf
  · exact ((Turn.of_below hb1).trans T2 (fun i e => .inl (.inl (.inr (.inl e))))).trans T3 (fun i e => .inl (.inl (.inl e)))
  · rintro k ((e | e | e | ⟨p, hp, _⟩) | e)
    · exact .inl (.inl (.inl e))
    · rcases hv' k e with e | e
      · exact .inl (.inl (.inr (.inl e)))
      · exact .inr e
    · exact .inl (.inl (.inr (.inr (.inl e))))
    · simp at hp
    · exact .inl (.inr e)
theorem st_hint {w w1 w2 : World} {o : OB} {H : List ByteArray} {B : List Bn} (h : St w o H B []) (hb1 : Below w.heap.size w w1) {v' : Value} {x : Bn} (ow : w2.ownsRow 0 65 5 v' (B.length + 1) (bC B ++ bV x)) (hg : w1.grownBy w2 o.bv.ownBlock) (hv' : ∀ k, v'.ownBlock = some k → o.bv.ownBlock = some k ∨ w.heap.size ≤ k) (hlen : B.length + 1 ≤ 8) (hf : OkB x) :
    St (w2.setCell ⟨o.gs, 1, none⟩ v') { o with bv := v' } H (B ++ [x]) [] ∧ Turn (ofoot o []) w (w2.setCell ⟨o.gs, 1, none⟩ v') ∧ ∀ k, ofoot { o with bv := v' } [] k → ofoot o [] k ∨ w.heap.size ≤ k := by
  have h1 := h.below hb1
  have t1 : o.hv.ownBlock ≠ some o.gs := fun e => absurd (own_tag h1.rest.hosts e h1.rest.blk) (by decide)
  have t2 : o.bv.ownBlock ≠ some o.gs := fun e => absurd (own_tag h1.rest.hints e h1.rest.blk) (by decide)
  have T2 : Turn (fun k => o.bv.ownBlock = some k) w1 w2 := Turn.of_grown hg (fun k e => e)
  have T3 : Turn (fun k => k = o.gs) w2 (w2.setCell ⟨o.gs, 1, none⟩ v') := Turn.of_set (S := fun k => k = o.gs) w2 (p := ⟨o.gs, 1, none⟩) rfl v'
  have hv'g : ∀ k, v'.ownBlock = some k → k ≠ o.gs := fun k hk e => by
    subst e
    exact absurd (own_tag ow hk (T2.blk h1.rest.blk t2)) (by decide)
  refine ⟨⟨⟨?_, ?_, ?_, fun p hp => by simp at hp, List.Pairwise.nil⟩, ?_, by simp, ?_⟩, ?_, ?_⟩
  · exact (T2.blk h1.rest.blk t2).set 1 v'
  · exact T3.row (T2.row h1.rest.hosts (fun k hk => own_far h1.rest.hosts h1.rest.hints (by decide) k hk)) (fun k hk e => t1 (by rw [hk, e]))
  · show (w2.setCell _ _).ownsRow 0 65 5 v' (B ++ [x]).length (bC (B ++ [x]))
    rw [List.length_append, bC_app, show bC [x] = bV x by simp [bC]]
    exact T3.row ow (fun k hk e => hv'g k hk e)
  · refine (h1.at'.turn T2 (fun b e hk => ?_)).turn T3 (fun b e hk => ?_)
    · obtain ⟨es, clock, hb⟩ := h1.at'.is_map b e
      exact h1.rest.not_map (.inr (.inr (.inl hk))) hb rfl
    · obtain ⟨es, clock, hb⟩ := h1.at'.is_map b e
      exact h1.rest.not_map (.inl hk) hb rfl
  · refine ⟨h.hok.1, h.hok.2.1, by rw [List.length_append]; exact hlen, fun y hy => ?_⟩
    rcases List.mem_append.1 hy with hy | hy
    · exact h.hok.2.2.2 y hy
    · simp at hy; subst hy; exact hf
  · exact ((Turn.of_below hb1).trans T2 (fun i e => .inl (.inl (.inr (.inr (.inl e)))))).trans T3 (fun i e => .inl (.inl (.inl e)))
  · rintro k ((e | e | e | ⟨p, hp, _⟩) | e)
    · exact .inl (.inl (.inl e))
    · exact .inl (.inl (.inr (.inl e)))
    · rcases hv' k e with e | e
      · exact .inl (.inl (.inr (.inr (.inl e))))
      · exact .inr e
    · simp at hp
    · exact .inl (.inr e)
/-- How far New is. -/
structure NX (w wr : World) (gs : Nat) (hv bv : Value) (b : Nat) (H : List ByteArray) (B : List Bn) : Prop where
  st : St wr ⟨gs, hv, bv, some b⟩ H B []
  bel : Below w.heap.size w wr
  new : ∀ k, ofoot ⟨gs, hv, bv, some b⟩ [] k → w.heap.size ≤ k
theorem NX.below {w wr wn : World} {gs : Nat} {hv bv : Value} {b : Nat} {H : List ByteArray} {B : List Bn} (h : NX w wr gs hv bv b H B) (hb : Below wr.heap.size wr wn) : NX w wn gs hv bv b H B := ⟨h.st.below hb, next h.bel hb, h.new⟩
theorem NX.turn {w wr wn : World} {gs : Nat} {hv bv hv' bv' : Value} {b : Nat} {H H' : List ByteArray} {B B' : List Bn} (h : NX w wr gs hv bv b H B) (hs : St wn ⟨gs, hv', bv', some b⟩ H' B' []) (ht : Turn (ofoot ⟨gs, hv, bv, some b⟩ []) wr wn) (hf : ∀ k, ofoot ⟨gs, hv', bv', some b⟩ [] k → ofoot ⟨gs, hv, bv, some b⟩ [] k ∨ wr.heap.size ≤ k) : NX w wn gs hv' bv' b H' B' :=
  ⟨hs, Turn.below h.bel ht h.bel.size (fun i hi => h.new i hi), fun k hk => (hf k hk).elim (h.new k) (fun e => Nat.le_trans h.bel.size e)⟩
theorem new_no (v : Value) (hs : List Hn) (w : World) (hr : Row w v hs.length (hnC hs)) (hl : hs.length ≤ maxLen) (hss : ∀ x ∈ hs, x.h.size ≤ maxLen) (hno : hintsOk hs = false) :
    Calls Tryz.prog 5 #[v] w fun e w' => e = .returned (.tuple #[.pointer none, .int .i64 1500]) ∧ Below w.heap.size w w' := by
  have hcn := hintCon_any v hs w hr hl hss
  obtain ⟨x0, c0, rfl, _⟩ := hr.src
  unfold wrongF at hcn
  unfold hintsOk at hno
  obtain ⟨N, hN⟩ : ∃ N, N = hs.length := ⟨_, rfl⟩
  rw [← hN] at hcn hno hl ⊢
  clear hr hss hN
  by_cases h1 : N < 1
  · have h1' : (N : Int) < 1 := by omega
    go_enter Tryz.func5, Tryz.ntmps5
    go_wp2
    go_ret2
    exact ⟨rfl, Below.refl _ _⟩
  · have h1' : decide ((N : Int) < 1) = false := by simp; omega
    by_cases h2 : 8 < N
    · have h2' : (8 : Int) < (N : Int) := by omega
      go_enter Tryz.func5, Tryz.ntmps5
      go_wp2
      go_ret2
      exact ⟨rfl, Below.refl _ _⟩
    · have h2' : decide ((8 : Int) < (N : Int)) = false := by simp; omega
      have hal : hs.all hnOk = false := by
        rw [decide_eq_true (show 1 ≤ N by omega), decide_eq_true (show N ≤ 8 by omega)] at hno
        exact hno
      rw [hal] at hcn
      clear hno hal
      go_enter Tryz.func5, Tryz.ntmps5
      go_wp2_with (go_at_call 30; go_must (refine hcn.mono ?_); rintro e w1 ⟨rfl, b1⟩)
      go_ret2
      exact ⟨rfl, b1⟩

set_option maxRecDepth 20000 in
set_option maxHeartbeats 4000000 in
theorem new_yes (v : Value) (hs : List Hn) (w : World) (hr : Row w v hs.length (hnC hs)) (hss : ∀ x ∈ hs, x.h.size ≤ maxLen) (hok : hintsOk hs = true) :
    Calls Tryz.prog 5 #[v] w fun e w' => ∃ gs hv bv b, e = .returned (.tuple #[.pointer (some ⟨gs, 0, none⟩), .int .i64 0]) ∧ NX w w' gs hv bv b (hostsN hs) (bindsN hs) := by
  obtain ⟨i9, hi9, hz90, hz91, hz92⟩ := info_parts info9
  obtain ⟨iB, hiB, hzB0, hzB1, hzB2⟩ := info_parts infoBn
  unfold hintsOk at hok
  simp only [Bool.and_eq_true, decide_eq_true_eq] at hok
  obtain ⟨⟨hN1, hN8⟩, hall⟩ := hok
  have hcn := hintCon_any v hs w hr (by unfold maxLen; omega) hss
  rw [hall] at hcn
  have HALL : Hid (∀ x ∈ hs, hnOk x = true) := fun x hx => List.all_eq_true.1 hall x hx
  have HR : Hid (Row w v hs.length (hnC hs)) := hr
  have HSS : Hid (∀ x ∈ hs, x.h.size ≤ maxLen) := hss
  obtain ⟨x0, c0, rfl, _⟩ := hr.src
  unfold wrongF at hcn
  obtain ⟨N, hN⟩ : ∃ N, N = hs.length := ⟨_, rfl⟩
  have HN : Hid (N = hs.length) := hN
  rw [← hN] at hcn HR hN1 hN8 ⊢
  clear hr hss hN hall
  have h1' : decide ((N : Int) < 1) = false := by simp; omega
  have h2' : decide ((8 : Int) < (N : Int)) = false := by simp; omega
  have hmm := @run_makeMap Tryz.prog
  have HW0 : Hid (∀ w1, Below w.heap.size w w1 → NX w ((w1.alloc (.map #[] 0)).alloc (.cells #[.slice none 0 0, .slice none 0 0, .map (some w1.heap.size)] 61)) (w1.heap.size + 1) (.slice none 0 0) (.slice none 0 0) w1.heap.size (hostsN (hs.take 0)) (bindsN (hs.take 0))) := fun w1 hb => by
    have hz : (w1.alloc (.map #[] 0)).heap.size = w1.heap.size + 1 := by simp
    have hmade := World.ownsMap_made w1 Tryz.prog 76 rE
    refine ⟨⟨⟨?_, World.ownsRow_nil _ _ _ _, World.ownsRow_nil _ _ _ _, fun p hp => by simp at hp, List.Pairwise.nil⟩, .inr ⟨_, rfl, ⟨0, _, hmade.alloc _, mapOf_nil⟩, ⟨fun p hp => by simp at hp, List.Pairwise.nil⟩⟩, by simp, ⟨by simp [hostsN], fun x hx => by simp [hostsN] at hx, by simp [bindsN], fun x hx => by simp [bindsN] at hx⟩⟩, lay (lay hb _) _, ?_⟩
    · have := Blk.new (w1.alloc (.map #[] 0)) #[.slice none 0 0, .slice none 0 0, .map (some w1.heap.size)] 61
      rw [hz] at this
      exact this
    · have := hb.size
      rintro k ((e | e | e | ⟨p, hp, _⟩) | e)
      · have e2 : k = w1.heap.size + 1 := e
        omega
      · simp [Value.ownBlock] at e
      · simp [Value.ownBlock] at e
      · simp at hp
      · have e2 : some w1.heap.size = some k := e
        have := Option.some.inj e2
        omega
  go_enter Tryz.func5, Tryz.ntmps5
  go_wp2_with (go_at_call 30; go_must (refine hcn.mono ?_); rintro e w1 ⟨rfl, b1⟩; have HX1 := HW0.out w1 b1; clear HW0 b1)
  obtain ⟨b, hb⟩ : ∃ b, b = w1.heap.size := ⟨_, rfl⟩
  obtain ⟨gs, hgs⟩ : ∃ gs, gs = w1.heap.size + 1 := ⟨_, rfl⟩
  obtain ⟨W0, hW0⟩ : ∃ W, W = (w1.alloc (.map #[] 0)).alloc (.cells #[.slice none 0 0, .slice none 0 0, .map (some w1.heap.size)] 61) := ⟨_, rfl⟩
  rw [← hW0, ← hgs, ← hb] at HX1
  rw [← hW0, ← hgs]
  have HS : Hid (NX w W0 gs (.slice none 0 0) (.slice none 0 0) b (hostsN (hs.take 0)) (bindsN (hs.take 0))) := HX1
  clear hW0 hgs hb HX1 hcn hmm
  go_loopw [25] (fun k wr => ∃ (j : Nat) (hv bv : Value), j ≤ N ∧ k = .int .i64 (j : Int) ∧ Hid (NX w wr gs hv bv b (hostsN (hs.take j)) (bindsN (hs.take j)))) (fun k _ => N - (intOf k).toNat)
  case atStart => exact ⟨0, _, _, Nat.zero_le _, rfl, HS⟩
  case round =>
    clear HS
    obtain ⟨j, hv, bv, hj, rfl, HX⟩ := hrel
    by_cases hjn : j < N
    · have hjn' : (j : Int) < (N : Int) := by omega
      have hju : j < hs.length := by have := HN.out; omega
      obtain ⟨g, o, cap, hx, hc⟩ := row_at (HR.out.below HX.out.bel) (by omega)
      simp only [Value.slice.injEq] at hx
      obtain ⟨rfl, -, rfl⟩ := hx
      obtain ⟨⟨pn, pa⟩, hp⟩ : ∃ p, p = hs[j] := ⟨_, rfl⟩
      have hfl := fun i hi => flat_get (f := hnV) (z := 2) (fun _ => rfl) hs j hju i hi
      rw [← hp] at hfl
      have d0 := hc (j * 2 + 0) _ (hfl 0 (by omega))
      have d1 := hc (j * 2 + 1) _ (hfl 1 (by omega))
      simp only [Nat.add_zero, ← Nat.add_assoc] at d0 d1
      have HQ : Hid ((⟨pn, pa⟩ : Hn) = hs[j]) := hp
      have hpl : pn.size ≤ maxLen := by have := HSS.out _ (List.getElem_mem hju); rw [← hp] at this; exact this
      have hpn : isName pn.data.toList = true := by
        have := HALL.out _ (List.getElem_mem hju)
        rw [← hp] at this
        unfold hnOk at this
        simp only [Bool.and_eq_true] at this
        exact this.1
      obtain ⟨f, hf⟩ : ∃ f, f = fdB pn := ⟨_, rfl⟩
      have HF : Hid (f = fdB pn) := hf
      have HF5 : Hid (f.size ≤ 255) := by unfold Hid; rw [hf]; exact fd_255 hpn
      have hfo := fun u => fold_any pn u hpl
      rw [show (⟨(foldR pn.data.toList).toArray⟩ : ByteArray) = f from hf.symm] at hfo
      obtain ⟨H, hH⟩ : ∃ H, H = hostsN (hs.take j) := ⟨_, rfl⟩
      have HHL : Hid (H.length ≤ j) := by unfold Hid; rw [hH]; exact hostsN_len hs j
      have HH1 : Hid (hostsN (hs.take (j + 1)) = if 0 ≤ posL H f then H else H ++ [f]) := by
        unfold Hid
        rw [hostsN_take hju, ← hp, ← hH, hf]
        rfl
      rw [← hH] at HX
      obtain ⟨yh, ch, rfl⟩ := row_shape HX.out.st.rest.hosts
      obtain ⟨M, hM⟩ : ∃ M, M = H.length := ⟨_, rfl⟩
      have HM : Hid (M = H.length) := hM
      have HXX : Hid (NX w wr gs (.slice yh M ch) bv b H (bindsN (hs.take j))) := by unfold Hid; rw [hM]; exact HX.out
      have hM8 : M ≤ 8 := by have := HHL.out; omega
      have hM7 : M < 8 := by have := HHL.out; omega
      have HY : Hid (∀ w2, Below (wr.alloc (.cells #[.string pn, .int .i64 pa] 56)).heap.size (wr.alloc (.cells #[.string pn, .int .i64 pa] 56)) w2 → NX w w2 gs (.slice yh M ch) bv b H (bindsN (hs.take j)) ∧ Blk w2 wr.heap.size #[.string pn, .int .i64 pa] 56 ∧ w2.cell? ⟨gs, 0, none⟩ = some (.slice yh M ch)) := fun w2 b2 => by
        have hb2 : Below wr.heap.size wr w2 := next (lay (Below.refl _ _) _) b2
        have h2 := HXX.out.below hb2
        exact ⟨h2, (Blk.new wr _ _).below b2, h2.st.rest.blk.cell 0⟩
      have hk0 := Blk.new wr #[.string pn, .int .i64 pa] 56
      have e0 := hk0.cell 0
      simp only [List.getElem?_toArray, List.getElem?_cons_zero] at e0
      obtain ⟨kY, hkY⟩ : ∃ kY, kY = wr.heap.size := ⟨_, rfl⟩
      clear hc hp hfl hpn hf hH HX hM HALL hk0
      cases hB : decide (0 ≤ posL H f) with
      | true =>
        have HCN : Hid (∀ w2, NX w w2 gs (.slice yh M ch) bv b H (bindsN (hs.take j)) → Calls Tryz.prog 33 #[.slice yh M ch, .string f] w2 fun e w' => e = .returned (.bool true) ∧ w' = w2) := fun w2 h2 => contains_any _ H f w2 (Row.of_own h2.st.rest.hosts) (by rw [← HM.out]; omega) true (by
          simp only [decide_eq_true_eq] at hB
          exact ⟨fun _ => posL_mem.1 hB, fun _ => rfl⟩)
        have HH2 : Hid (hostsN (hs.take (j + 1)) = H) := by unfold Hid; rw [HH1.out, if_pos (by simpa using hB)]
        clear hB HH1
        go_wp2_with (first
          | (go_at_call 32; go_must (refine (hfo _).mono ?_); rintro e w5 ⟨rfl, b5⟩; obtain ⟨n5, k5, q0⟩ := HY.out w5 b5; have hcon := HCN.out w5 n5; clear b5 e0)
          | (go_at_call 33; go_must (refine hcon.mono ?_); rintro e w' ⟨rfl, hw⟩; obtain rfl := hw.symm))
        have HX5 : Hid (NX w w5 gs (.slice yh M ch) bv b (hostsN (hs.take (j + 1))) (bindsN (hs.take j))) := by unfold Hid; rw [HH2.out]; exact n5
        rw [← hkY] at k5 ⊢
        have HK5 : Hid (Blk w5 kY #[.string pn, .int .i64 pa] 56) := k5
        obtain ⟨hv5, hhv5⟩ : ∃ hv5, hv5 = Value.slice yh M ch := ⟨_, rfl⟩
        rw [← hhv5] at HX5
        clear n5 k5 q0 hcon hhv5 hkY
        have c1 : w5.drew.cell? ⟨gs, 1, none⟩ = some bv := HX5.out.st.rest.blk.cell 1
        have a1 : w5.drew.cell? ⟨kY, 1, none⟩ = some (.int .i64 pa) := HK5.out.cell 1
        obtain ⟨yb, cb, rfl⟩ := row_shape HX5.out.st.rest.hints
        have HLB : Hid ((bindsN (hs.take j)).length = j) := by unfold Hid bindsN; rw [List.length_map, List.length_take]; have := HN.out; omega
        have HX6 : Hid (NX w w5 gs hv5 (.slice yb j cb) b (hostsN (hs.take (j + 1))) (bindsN (hs.take j))) := by have := HX5.out; rw [HLB.out] at this; exact this
        rw [HLB.out] at c1
        have hto := HX6.out.st.rest.hints
        rw [HLB.out] at hto
        have hXd : Blk (w5.alloc (.cells #[.string rootB, .string f, .int .i64 pa, .string rootB, .int .i64 0] 65)).drew w5.heap.size #[.string rootB, .string f, .int .i64 pa, .string rootB, .int .i64 0] 65 := Blk.new w5 #[.string rootB, .string f, .int .i64 pa, .string rootB, .int .i64 0] 65
        have hbd : Below w5.heap.size w5 (w5.alloc (.cells #[.string rootB, .string f, .int .i64 pa, .string rootB, .int .i64 0] 65)).drew := (lay (Below.refl _ _) _).drew
        have c2 : (w5.alloc (.cells #[.string rootB, .string f, .int .i64 pa, .string rootB, .int .i64 0] 65)).cell? ⟨gs, 1, none⟩ = some (.slice yb j cb) := (HX6.out.st.rest.blk.below hbd).cell 1
        have hto6 := own_past hto hbd
        have HBD : Hid (Below w5.heap.size w5 (w5.alloc (.cells #[.string rootB, .string f, .int .i64 pa, .string rootB, .int .i64 0] 65)).drew) := hbd
        unfold rootB at hXd c2 hto6
        clear hto hbd HX5
        refine wp_region_held_drew (S := fun u => Blk u kY #[.string pn, .int .i64 pa] 56) (by kernel_rfl) (HK5.out.below (Below.refl _ _).drew) (fun hHeld => ?_)
        refine wpAnyH_take (i := 0) (v := .pointer (some ⟨gs, 0, none⟩)) rfl (by kernel_rfl) (by kernel_rfl) (by kernel_rfl) (fun _ _ _ h => h) (Or.inl ⟨by rfl, ?_⟩) hHeld ?_
        · intro u hu
          go_simp
        simp only [Act.put, List.getElem_toArray, List.getElem_cons_zero, List.setIfInBounds_toArray, List.set_cons_zero, List.set_cons_succ]
        refine wpAnyH_take (i := 1) (v := .pointer (some ⟨gs, 0, none⟩)) rfl (by kernel_rfl) (by kernel_rfl) (by kernel_rfl) (fun _ _ _ h => h) (Or.inl ⟨by rfl, ?_⟩) hHeld ?_
        · intro u hu
          go_simp
        simp only [Act.put, List.getElem_toArray, List.getElem_cons_succ, List.getElem_cons_zero, List.setIfInBounds_toArray, List.set_cons_zero, List.set_cons_succ]
        refine wpAnyH_take (i := 2) (v := .pointer (some ⟨gs, 0, none⟩)) rfl (by kernel_rfl) (by kernel_rfl) (by kernel_rfl) (fun _ _ _ h => h) (Or.inl ⟨by rfl, ?_⟩) hHeld ?_
        · intro u hu
          go_simp
        simp only [Act.put, List.getElem_toArray, List.getElem_cons_succ, List.getElem_cons_zero, List.setIfInBounds_toArray, List.set_cons_zero, List.set_cons_succ]
        refine wpAnyH_take (i := 3) (v := .pointer (some ⟨gs, 1, none⟩)) rfl (by kernel_rfl) (by kernel_rfl) (by kernel_rfl) (fun _ _ _ h => h) (Or.inl ⟨by rfl, ?_⟩) hHeld ?_
        · intro u hu
          go_simp
        simp only [Act.put, List.getElem_toArray, List.getElem_cons_succ, List.getElem_cons_zero, List.setIfInBounds_toArray, List.set_cons_zero, List.set_cons_succ]
        refine wpAnyH_take (i := 5) (v := .string f) rfl (by kernel_rfl) (by kernel_rfl) (by kernel_rfl) (fun _ _ _ h => h) (Or.inl ⟨by rfl, ?_⟩) hHeld ?_
        · intro u hu
          go_simp
        simp only [Act.put, List.getElem_toArray, List.getElem_cons_succ, List.getElem_cons_zero, List.setIfInBounds_toArray, List.set_cons_zero, List.set_cons_succ]
        refine wpAnyH_take (i := 6) (v := .pointer (some ⟨kY, 1, none⟩)) rfl (by kernel_rfl) (by kernel_rfl) (by kernel_rfl) (fun _ _ _ h => h) (Or.inl ⟨by rfl, ?_⟩) hHeld ?_
        · intro u hu
          go_simp
        simp only [Act.put, List.getElem_toArray, List.getElem_cons_succ, List.getElem_cons_zero, List.setIfInBounds_toArray, List.set_cons_zero, List.set_cons_succ]
        refine wpAnyH_take (i := 7) (v := .int .i64 pa) rfl (by kernel_rfl) (by kernel_rfl) (by kernel_rfl) (fun _ _ _ h => h) (Or.inl ⟨by rfl, ?_⟩) hHeld ?_
        · intro u hu
          have a0 := hu.cell 1; simp only [List.getElem?_toArray, List.getElem?_cons_succ, List.getElem?_cons_zero] at a0; clear hu
          go_simp
        simp only [Act.put, List.getElem_toArray, List.getElem_cons_succ, List.getElem_cons_zero, List.setIfInBounds_toArray, List.set_cons_zero, List.set_cons_succ]
        refine wpAnyH_take (i := 8) (v := .agg #[.string ⟨#[0]⟩, .string f, .int .i64 pa, .string ⟨#[0]⟩, .int .i64 0]) rfl (by kernel_rfl) (by kernel_rfl) (by kernel_rfl) (fun _ _ _ h => h) (Or.inl ⟨by rfl, ?_⟩) hHeld ?_
        · intro u hu
          go_simp
        simp only [Act.put, List.getElem_toArray, List.getElem_cons_succ, List.getElem_cons_zero, List.setIfInBounds_toArray, List.set_cons_zero, List.set_cons_succ]
        refine wpAnyH_ready (rs := [4, 9]) (by kernel_rfl) (by simp) ?_
        refine AllReadyH.cons rfl (fun K hK => ?_) (AllReadyH.cons rfl (fun K hK => ?_) AllReadyH.nil)
        · skip
          go_simp
          refine hK.out _ _ hHeld (fun hHeld => ?_)
          clear hK K
          refine wpAnyH_ready (rs := [9]) (by kernel_rfl) (by simp) ?_
          refine AllReadyH.cons rfl (fun K hK => ?_) AllReadyH.nil
          go_simp
          refine hK.out _ _ (hHeld.alloc _) (fun hHeld => ?_)
          clear hK K
          refine wpAnyH_ready (rs := [10]) (by kernel_rfl) (by simp) ?_
          refine AllReadyH.cons rfl (fun K hK => ?_) AllReadyH.nil
          refine step_appG _ rfl (.tmp 53) (.tmp 58) 37 65 iB _ 5 64 Tryz.underlying37 hiB hzB0 hzB1 hzB2 rfl (by decide) rfl 0 _ j _ rfl hto6 (.slice (some ⟨w5.heap.size, 0, none⟩) 1 1) 1 [.string ⟨#[0]⟩, .string f, .int .i64 pa, .string ⟨#[0]⟩, .int .i64 0] rfl (Row.of_blk hXd rfl 1 1) rfl (by simp [Value.oneCell']) (by omega) (by unfold maxLen; omega) (Nat.zero_le _) ?_
          intro v7 w7 h1 h3 h4
          have hblk7 := ((HX6.out.st.rest.blk).below HBD.out).grown h3 (fun e => absurd (own_tag hto6 e.symm (HX6.out.st.rest.blk.below HBD.out)) (by decide))
          have q6 : w7.cell? ⟨gs, 1, none⟩ = some (.slice yb j cb) := hblk7.cell 1
          have q7 : w7.frozen? ⟨gs, 1, none⟩ = false := hblk7.frozen 1
          have hH7 := hHeld.grown h3 (fun e => absurd (own_tag hto6 e.symm hHeld) (by decide))
          have hne7 : kY ≠ gs := fun e => by subst e; exact absurd (blk_tag hH7 hblk7) (by decide)
          obtain ⟨y7, c7, rfl⟩ := row_shape h1
          have HA9 : Hid (NX w (w7.setCell ⟨gs, 1, none⟩ (.slice y7 (j + 1) c7)) gs hv5 (.slice y7 (j + 1) c7) b (hostsN (hs.take (j + 1))) (bindsN (hs.take (j + 1)))) := by
            have hst := st_hint HX6.out.st HBD.out (x := hintB ⟨pn, pa⟩) (v' := .slice y7 (j + 1) c7) (w2 := w7) (by rw [HLB.out]; unfold bV hintB; rw [← HF.out]; exact h1) h3 (fun k hk => (h4 k hk).imp id (fun e => Nat.le_trans HBD.out.size e)) (by rw [HLB.out]; omega) (⟨show rootB.size ≤ 255 by decide, by show (fdB pn).size ≤ 255; rw [← HF.out]; exact HF5.out, show rootB.size ≤ 255 by decide⟩)
            rw [bindsN_take (by have := HN.out; omega), ← HQ.out]
            exact HX6.out.turn hst.1 hst.2.1 hst.2.2
          clear h1 h3 h4 hblk7 hto6
          refine hK.out _ _ hH7 (fun hHeld => ?_)
          clear hK K
          simp only [Act.put, List.getElem_toArray, List.getElem_cons_succ, List.getElem_cons_zero, List.setIfInBounds_toArray, List.set_cons_zero, List.set_cons_succ]
          refine wpAnyH_take (i := 11) (v := .pointer (some ⟨gs, 0, none⟩)) rfl (by kernel_rfl) (by kernel_rfl) (by kernel_rfl) (fun _ _ _ h => h) (Or.inl ⟨by rfl, ?_⟩) hHeld ?_
          · intro u hu
            go_simp
          simp only [Act.put, List.getElem_toArray, List.getElem_cons_succ, List.getElem_cons_zero, List.setIfInBounds_toArray, List.set_cons_zero, List.set_cons_succ]
          refine wpAnyH_take (i := 12) (v := .pointer (some ⟨gs, 1, none⟩)) rfl (by kernel_rfl) (by kernel_rfl) (by kernel_rfl) (fun _ _ _ h => h) (Or.inl ⟨by rfl, ?_⟩) hHeld ?_
          · intro u hu
            go_simp
          simp only [Act.put, List.getElem_toArray, List.getElem_cons_succ, List.getElem_cons_zero, List.setIfInBounds_toArray, List.set_cons_zero, List.set_cons_succ]
          refine wpAnyH_ready (rs := [13]) (by kernel_rfl) (by simp) ?_
          refine AllReadyH.cons rfl (fun K hK => ?_) AllReadyH.nil
          go_simp
          refine hK.out _ _ (hH7.other hne7 _ _) (fun hHeld => ?_)
          clear hK K
          refine wpAnyH_done (by kernel_rfl) ?_ _
          go_wp2
          go_roundw
          case rel => exact ⟨j + 1, _, _, by omega, by go_num, HA9⟩
          case measure => simp [intOf]; omega
        · skip
          go_simp
          refine hK.out _ _ (hHeld.alloc _) (fun hHeld => ?_)
          clear hK K
          refine wpAnyH_ready (rs := [4]) (by kernel_rfl) (by simp) ?_
          refine AllReadyH.cons rfl (fun K hK => ?_) AllReadyH.nil
          go_simp
          refine hK.out _ _ hHeld (fun hHeld => ?_)
          clear hK K
          refine wpAnyH_ready (rs := [10]) (by kernel_rfl) (by simp) ?_
          refine AllReadyH.cons rfl (fun K hK => ?_) AllReadyH.nil
          refine step_appG _ rfl (.tmp 53) (.tmp 58) 37 65 iB _ 5 64 Tryz.underlying37 hiB hzB0 hzB1 hzB2 rfl (by decide) rfl 0 _ j _ rfl hto6 (.slice (some ⟨w5.heap.size, 0, none⟩) 1 1) 1 [.string ⟨#[0]⟩, .string f, .int .i64 pa, .string ⟨#[0]⟩, .int .i64 0] rfl (Row.of_blk hXd rfl 1 1) rfl (by simp [Value.oneCell']) (by omega) (by unfold maxLen; omega) (Nat.zero_le _) ?_
          intro v7 w7 h1 h3 h4
          have hblk7 := ((HX6.out.st.rest.blk).below HBD.out).grown h3 (fun e => absurd (own_tag hto6 e.symm (HX6.out.st.rest.blk.below HBD.out)) (by decide))
          have q6 : w7.cell? ⟨gs, 1, none⟩ = some (.slice yb j cb) := hblk7.cell 1
          have q7 : w7.frozen? ⟨gs, 1, none⟩ = false := hblk7.frozen 1
          have hH7 := hHeld.grown h3 (fun e => absurd (own_tag hto6 e.symm hHeld) (by decide))
          have hne7 : kY ≠ gs := fun e => by subst e; exact absurd (blk_tag hH7 hblk7) (by decide)
          obtain ⟨y7, c7, rfl⟩ := row_shape h1
          have HA9 : Hid (NX w (w7.setCell ⟨gs, 1, none⟩ (.slice y7 (j + 1) c7)) gs hv5 (.slice y7 (j + 1) c7) b (hostsN (hs.take (j + 1))) (bindsN (hs.take (j + 1)))) := by
            have hst := st_hint HX6.out.st HBD.out (x := hintB ⟨pn, pa⟩) (v' := .slice y7 (j + 1) c7) (w2 := w7) (by rw [HLB.out]; unfold bV hintB; rw [← HF.out]; exact h1) h3 (fun k hk => (h4 k hk).imp id (fun e => Nat.le_trans HBD.out.size e)) (by rw [HLB.out]; omega) (⟨show rootB.size ≤ 255 by decide, by show (fdB pn).size ≤ 255; rw [← HF.out]; exact HF5.out, show rootB.size ≤ 255 by decide⟩)
            rw [bindsN_take (by have := HN.out; omega), ← HQ.out]
            exact HX6.out.turn hst.1 hst.2.1 hst.2.2
          clear h1 h3 h4 hblk7 hto6
          refine hK.out _ _ hH7 (fun hHeld => ?_)
          clear hK K
          simp only [Act.put, List.getElem_toArray, List.getElem_cons_succ, List.getElem_cons_zero, List.setIfInBounds_toArray, List.set_cons_zero, List.set_cons_succ]
          refine wpAnyH_take (i := 11) (v := .pointer (some ⟨gs, 0, none⟩)) rfl (by kernel_rfl) (by kernel_rfl) (by kernel_rfl) (fun _ _ _ h => h) (Or.inl ⟨by rfl, ?_⟩) hHeld ?_
          · intro u hu
            go_simp
          simp only [Act.put, List.getElem_toArray, List.getElem_cons_succ, List.getElem_cons_zero, List.setIfInBounds_toArray, List.set_cons_zero, List.set_cons_succ]
          refine wpAnyH_take (i := 12) (v := .pointer (some ⟨gs, 1, none⟩)) rfl (by kernel_rfl) (by kernel_rfl) (by kernel_rfl) (fun _ _ _ h => h) (Or.inl ⟨by rfl, ?_⟩) hHeld ?_
          · intro u hu
            go_simp
          simp only [Act.put, List.getElem_toArray, List.getElem_cons_succ, List.getElem_cons_zero, List.setIfInBounds_toArray, List.set_cons_zero, List.set_cons_succ]
          refine wpAnyH_ready (rs := [13]) (by kernel_rfl) (by simp) ?_
          refine AllReadyH.cons rfl (fun K hK => ?_) AllReadyH.nil
          go_simp
          refine hK.out _ _ (hH7.other hne7 _ _) (fun hHeld => ?_)
          clear hK K
          refine wpAnyH_done (by kernel_rfl) ?_ _
          go_wp2
          go_roundw
          case rel => exact ⟨j + 1, _, _, by omega, by go_num, HA9⟩
          case measure => simp [intOf]; omega
      | false =>
        have HCN : Hid (∀ w2, NX w w2 gs (.slice yh M ch) bv b H (bindsN (hs.take j)) → Calls Tryz.prog 33 #[.slice yh M ch, .string f] w2 fun e w' => e = .returned (.bool false) ∧ w' = w2) := fun w2 h2 => contains_any _ H f w2 (Row.of_own h2.st.rest.hosts) (by rw [← HM.out]; omega) false (by
          simp only [decide_eq_false_iff_not] at hB
          exact ⟨fun h => absurd h (by decide), fun h => absurd (posL_mem.2 h) hB⟩)
        have HH2 : Hid (hostsN (hs.take (j + 1)) = H ++ [f]) := by unfold Hid; rw [HH1.out, if_neg (by simpa using hB)]
        have HST : Hid (∀ w2 w7 v7, NX w w2 gs (.slice yh M ch) bv b H (bindsN (hs.take j)) → w7.ownsRow 0 9 1 v7 (M + 1) (tC H ++ [.string f]) → (w2.alloc (.cells #[.string f] 9)).grownBy w7 (Value.slice yh M ch).ownBlock → (∀ k, v7.ownBlock = some k → (Value.slice yh M ch).ownBlock = some k ∨ w2.heap.size ≤ k) → Blk w2 kY #[.string pn, .int .i64 pa] 56 → NX w (w7.setCell ⟨gs, 0, none⟩ v7) gs v7 bv b (hostsN (hs.take (j + 1))) (bindsN (hs.take j)) ∧ Blk (w7.setCell ⟨gs, 0, none⟩ v7) kY #[.string pn, .int .i64 pa] 56) := fun w2 w7 v7 h2 ow gr ho hk => by
          have hb1 : Below w2.heap.size w2 (w2.alloc (.cells #[.string f] 9)) := lay (Below.refl _ _) _
          have hst := st_host h2.st hb1 (by show w7.ownsRow 0 9 1 v7 (H.length + 1) _; rw [← HM.out]; exact ow) gr ho (by rw [← HM.out]; omega) HF5.out
          rw [HH2.out]
          refine ⟨h2.turn hst.1 hst.2.1 hst.2.2, hst.2.1.blk hk ?_⟩
          rintro ((e | e | e | ⟨p, hp, _⟩) | e)
          · have e2 : kY = gs := e
            subst e2
            exact absurd (blk_tag hk h2.st.rest.blk) (by decide)
          · exact absurd (own_tag h2.st.rest.hosts e hk) (by decide)
          · exact absurd (own_tag h2.st.rest.hints e hk) (by decide)
          · simp at hp
          · obtain ⟨es, clock, hbm⟩ := h2.st.at'.is_map kY e
            unfold Blk at hk
            rw [hk] at hbm; cases hbm
        clear hB HH1
        rw [hkY] at HST
        go_wp2_with (first
          | (go_at_call 32; go_must (refine (hfo _).mono ?_); rintro e w4 ⟨rfl, b4⟩; obtain ⟨n4, k4, q0⟩ := HY.out w4 b4; have hcon := HCN.out w4 n4; have hto4 := own_past n4.st.rest.hosts (lay (Below.refl w4.heap.size w4) (.cells #[.string f] 9)); rw [← HM.out] at hto4; have kX := Blk.new w4 #[.string f] 9; have hcg := n4.st.rest.blk.below (lay (Below.refl w4.heap.size w4) (.cells #[.string f] 9)); have q1 : (w4.alloc (.cells #[.string f] 9)).cell? ⟨gs, 0, none⟩ = some (.slice yh M ch) := hcg.cell 0; clear b4 e0)
          | (go_at_call 33; go_must (refine hcon.mono ?_); rintro e w' ⟨rfl, hw⟩; obtain rfl := hw.symm)
          | (at_builtin; refine wpList_appG _ rfl (.tmp 43) (.tmp 45) 36 9 i9 _ 1 16 Tryz.underlying36 hi9 hz90 hz91 hz92 rfl (by decide) rfl 0 _ M (tC H) rfl hto4 (.slice (some ⟨w4.heap.size, 0, none⟩) 1 1) 1 [.string f] rfl (Row.of_blk kX rfl 1 1) rfl (by simp [Value.oneCell']) (by omega) (by unfold maxLen; omega) (Nat.zero_le _) ?_; intro v5 w5 h1 h3 h4; have hs5 := HST.out w4 w5 v5 n4 h1 h3 (fun k hk => (h4 k hk).imp id (fun e => by rw [World.size_alloc] at e; omega)) k4; have hblk5 := hcg.grown h3 (fun e => absurd (own_tag hto4 e.symm hcg) (by decide)); have q2 : w5.cell? ⟨gs, 0, none⟩ = some (.slice yh M ch) := hblk5.cell 0; have q3 : w5.frozen? ⟨gs, 0, none⟩ = false := hblk5.frozen 0; obtain ⟨y5, c5, rfl⟩ := row_shape h1; have HN5 : Hid _ := hs5; clear h1 h3 h4 hs5 hblk5 hcg hto4 kX n4 k4 hcon q1))
        obtain ⟨n5, k5⟩ := HN5.out
        obtain ⟨hv5, hhv5⟩ : ∃ hv5, hv5 = Value.slice y5 (M + 1) c5 := ⟨_, rfl⟩
        rw [← hhv5] at n5 k5 ⊢
        obtain ⟨w6, hw6⟩ : ∃ w6, w6 = w5.setCell ⟨gs, 0, none⟩ hv5 := ⟨_, rfl⟩
        rw [← hw6] at n5 k5 ⊢
        clear hw6
        clear q2 q3 HN5
        have HX5 : Hid (NX w w6 gs hv5 bv b (hostsN (hs.take (j + 1))) (bindsN (hs.take j))) := n5
        rw [← hkY] at k5 ⊢
        have HK5 : Hid (Blk w6 kY #[.string pn, .int .i64 pa] 56) := k5
        clear n5 k5 hhv5 hkY
        clear w5
        obtain ⟨w5, rfl⟩ : ∃ w5, w5 = w6 := ⟨_, rfl⟩
        have c1 : w5.drew.cell? ⟨gs, 1, none⟩ = some bv := HX5.out.st.rest.blk.cell 1
        have a1 : w5.drew.cell? ⟨kY, 1, none⟩ = some (.int .i64 pa) := HK5.out.cell 1
        obtain ⟨yb, cb, rfl⟩ := row_shape HX5.out.st.rest.hints
        have HLB : Hid ((bindsN (hs.take j)).length = j) := by unfold Hid bindsN; rw [List.length_map, List.length_take]; have := HN.out; omega
        have HX6 : Hid (NX w w5 gs hv5 (.slice yb j cb) b (hostsN (hs.take (j + 1))) (bindsN (hs.take j))) := by have := HX5.out; rw [HLB.out] at this; exact this
        rw [HLB.out] at c1
        have hto := HX6.out.st.rest.hints
        rw [HLB.out] at hto
        have hXd : Blk (w5.alloc (.cells #[.string rootB, .string f, .int .i64 pa, .string rootB, .int .i64 0] 65)).drew w5.heap.size #[.string rootB, .string f, .int .i64 pa, .string rootB, .int .i64 0] 65 := Blk.new w5 #[.string rootB, .string f, .int .i64 pa, .string rootB, .int .i64 0] 65
        have hbd : Below w5.heap.size w5 (w5.alloc (.cells #[.string rootB, .string f, .int .i64 pa, .string rootB, .int .i64 0] 65)).drew := (lay (Below.refl _ _) _).drew
        have c2 : (w5.alloc (.cells #[.string rootB, .string f, .int .i64 pa, .string rootB, .int .i64 0] 65)).cell? ⟨gs, 1, none⟩ = some (.slice yb j cb) := (HX6.out.st.rest.blk.below hbd).cell 1
        have hto6 := own_past hto hbd
        have HBD : Hid (Below w5.heap.size w5 (w5.alloc (.cells #[.string rootB, .string f, .int .i64 pa, .string rootB, .int .i64 0] 65)).drew) := hbd
        unfold rootB at hXd c2 hto6
        clear hto hbd HX5
        refine wp_region_held_drew (S := fun u => Blk u kY #[.string pn, .int .i64 pa] 56) (by kernel_rfl) (HK5.out.below (Below.refl _ _).drew) (fun hHeld => ?_)
        refine wpAnyH_take (i := 0) (v := .pointer (some ⟨gs, 0, none⟩)) rfl (by kernel_rfl) (by kernel_rfl) (by kernel_rfl) (fun _ _ _ h => h) (Or.inl ⟨by rfl, ?_⟩) hHeld ?_
        · intro u hu
          go_simp
        simp only [Act.put, List.getElem_toArray, List.getElem_cons_zero, List.setIfInBounds_toArray, List.set_cons_zero, List.set_cons_succ]
        refine wpAnyH_take (i := 1) (v := .pointer (some ⟨gs, 0, none⟩)) rfl (by kernel_rfl) (by kernel_rfl) (by kernel_rfl) (fun _ _ _ h => h) (Or.inl ⟨by rfl, ?_⟩) hHeld ?_
        · intro u hu
          go_simp
        simp only [Act.put, List.getElem_toArray, List.getElem_cons_succ, List.getElem_cons_zero, List.setIfInBounds_toArray, List.set_cons_zero, List.set_cons_succ]
        refine wpAnyH_take (i := 2) (v := .pointer (some ⟨gs, 0, none⟩)) rfl (by kernel_rfl) (by kernel_rfl) (by kernel_rfl) (fun _ _ _ h => h) (Or.inl ⟨by rfl, ?_⟩) hHeld ?_
        · intro u hu
          go_simp
        simp only [Act.put, List.getElem_toArray, List.getElem_cons_succ, List.getElem_cons_zero, List.setIfInBounds_toArray, List.set_cons_zero, List.set_cons_succ]
        refine wpAnyH_take (i := 3) (v := .pointer (some ⟨gs, 1, none⟩)) rfl (by kernel_rfl) (by kernel_rfl) (by kernel_rfl) (fun _ _ _ h => h) (Or.inl ⟨by rfl, ?_⟩) hHeld ?_
        · intro u hu
          go_simp
        simp only [Act.put, List.getElem_toArray, List.getElem_cons_succ, List.getElem_cons_zero, List.setIfInBounds_toArray, List.set_cons_zero, List.set_cons_succ]
        refine wpAnyH_take (i := 5) (v := .string f) rfl (by kernel_rfl) (by kernel_rfl) (by kernel_rfl) (fun _ _ _ h => h) (Or.inl ⟨by rfl, ?_⟩) hHeld ?_
        · intro u hu
          go_simp
        simp only [Act.put, List.getElem_toArray, List.getElem_cons_succ, List.getElem_cons_zero, List.setIfInBounds_toArray, List.set_cons_zero, List.set_cons_succ]
        refine wpAnyH_take (i := 6) (v := .pointer (some ⟨kY, 1, none⟩)) rfl (by kernel_rfl) (by kernel_rfl) (by kernel_rfl) (fun _ _ _ h => h) (Or.inl ⟨by rfl, ?_⟩) hHeld ?_
        · intro u hu
          go_simp
        simp only [Act.put, List.getElem_toArray, List.getElem_cons_succ, List.getElem_cons_zero, List.setIfInBounds_toArray, List.set_cons_zero, List.set_cons_succ]
        refine wpAnyH_take (i := 7) (v := .int .i64 pa) rfl (by kernel_rfl) (by kernel_rfl) (by kernel_rfl) (fun _ _ _ h => h) (Or.inl ⟨by rfl, ?_⟩) hHeld ?_
        · intro u hu
          have a0 := hu.cell 1; simp only [List.getElem?_toArray, List.getElem?_cons_succ, List.getElem?_cons_zero] at a0; clear hu
          go_simp
        simp only [Act.put, List.getElem_toArray, List.getElem_cons_succ, List.getElem_cons_zero, List.setIfInBounds_toArray, List.set_cons_zero, List.set_cons_succ]
        refine wpAnyH_take (i := 8) (v := .agg #[.string ⟨#[0]⟩, .string f, .int .i64 pa, .string ⟨#[0]⟩, .int .i64 0]) rfl (by kernel_rfl) (by kernel_rfl) (by kernel_rfl) (fun _ _ _ h => h) (Or.inl ⟨by rfl, ?_⟩) hHeld ?_
        · intro u hu
          go_simp
        simp only [Act.put, List.getElem_toArray, List.getElem_cons_succ, List.getElem_cons_zero, List.setIfInBounds_toArray, List.set_cons_zero, List.set_cons_succ]
        refine wpAnyH_ready (rs := [4, 9]) (by kernel_rfl) (by simp) ?_
        refine AllReadyH.cons rfl (fun K hK => ?_) (AllReadyH.cons rfl (fun K hK => ?_) AllReadyH.nil)
        · skip
          go_simp
          refine hK.out _ _ hHeld (fun hHeld => ?_)
          clear hK K
          refine wpAnyH_ready (rs := [9]) (by kernel_rfl) (by simp) ?_
          refine AllReadyH.cons rfl (fun K hK => ?_) AllReadyH.nil
          go_simp
          refine hK.out _ _ (hHeld.alloc _) (fun hHeld => ?_)
          clear hK K
          refine wpAnyH_ready (rs := [10]) (by kernel_rfl) (by simp) ?_
          refine AllReadyH.cons rfl (fun K hK => ?_) AllReadyH.nil
          refine step_appG _ rfl (.tmp 53) (.tmp 58) 37 65 iB _ 5 64 Tryz.underlying37 hiB hzB0 hzB1 hzB2 rfl (by decide) rfl 0 _ j _ rfl hto6 (.slice (some ⟨w5.heap.size, 0, none⟩) 1 1) 1 [.string ⟨#[0]⟩, .string f, .int .i64 pa, .string ⟨#[0]⟩, .int .i64 0] rfl (Row.of_blk hXd rfl 1 1) rfl (by simp [Value.oneCell']) (by omega) (by unfold maxLen; omega) (Nat.zero_le _) ?_
          intro v7 w7 h1 h3 h4
          have hblk7 := ((HX6.out.st.rest.blk).below HBD.out).grown h3 (fun e => absurd (own_tag hto6 e.symm (HX6.out.st.rest.blk.below HBD.out)) (by decide))
          have q6 : w7.cell? ⟨gs, 1, none⟩ = some (.slice yb j cb) := hblk7.cell 1
          have q7 : w7.frozen? ⟨gs, 1, none⟩ = false := hblk7.frozen 1
          have hH7 := hHeld.grown h3 (fun e => absurd (own_tag hto6 e.symm hHeld) (by decide))
          have hne7 : kY ≠ gs := fun e => by subst e; exact absurd (blk_tag hH7 hblk7) (by decide)
          obtain ⟨y7, c7, rfl⟩ := row_shape h1
          have HA9 : Hid (NX w (w7.setCell ⟨gs, 1, none⟩ (.slice y7 (j + 1) c7)) gs hv5 (.slice y7 (j + 1) c7) b (hostsN (hs.take (j + 1))) (bindsN (hs.take (j + 1)))) := by
            have hst := st_hint HX6.out.st HBD.out (x := hintB ⟨pn, pa⟩) (v' := .slice y7 (j + 1) c7) (w2 := w7) (by rw [HLB.out]; unfold bV hintB; rw [← HF.out]; exact h1) h3 (fun k hk => (h4 k hk).imp id (fun e => Nat.le_trans HBD.out.size e)) (by rw [HLB.out]; omega) (⟨show rootB.size ≤ 255 by decide, by show (fdB pn).size ≤ 255; rw [← HF.out]; exact HF5.out, show rootB.size ≤ 255 by decide⟩)
            rw [bindsN_take (by have := HN.out; omega), ← HQ.out]
            exact HX6.out.turn hst.1 hst.2.1 hst.2.2
          clear h1 h3 h4 hblk7 hto6
          refine hK.out _ _ hH7 (fun hHeld => ?_)
          clear hK K
          simp only [Act.put, List.getElem_toArray, List.getElem_cons_succ, List.getElem_cons_zero, List.setIfInBounds_toArray, List.set_cons_zero, List.set_cons_succ]
          refine wpAnyH_take (i := 11) (v := .pointer (some ⟨gs, 0, none⟩)) rfl (by kernel_rfl) (by kernel_rfl) (by kernel_rfl) (fun _ _ _ h => h) (Or.inl ⟨by rfl, ?_⟩) hHeld ?_
          · intro u hu
            go_simp
          simp only [Act.put, List.getElem_toArray, List.getElem_cons_succ, List.getElem_cons_zero, List.setIfInBounds_toArray, List.set_cons_zero, List.set_cons_succ]
          refine wpAnyH_take (i := 12) (v := .pointer (some ⟨gs, 1, none⟩)) rfl (by kernel_rfl) (by kernel_rfl) (by kernel_rfl) (fun _ _ _ h => h) (Or.inl ⟨by rfl, ?_⟩) hHeld ?_
          · intro u hu
            go_simp
          simp only [Act.put, List.getElem_toArray, List.getElem_cons_succ, List.getElem_cons_zero, List.setIfInBounds_toArray, List.set_cons_zero, List.set_cons_succ]
          refine wpAnyH_ready (rs := [13]) (by kernel_rfl) (by simp) ?_
          refine AllReadyH.cons rfl (fun K hK => ?_) AllReadyH.nil
          go_simp
          refine hK.out _ _ (hH7.other hne7 _ _) (fun hHeld => ?_)
          clear hK K
          refine wpAnyH_done (by kernel_rfl) ?_ _
          go_wp2
          go_roundw
          case rel => exact ⟨j + 1, _, _, by omega, by go_num, HA9⟩
          case measure => simp [intOf]; omega
        · skip
          go_simp
          refine hK.out _ _ (hHeld.alloc _) (fun hHeld => ?_)
          clear hK K
          refine wpAnyH_ready (rs := [4]) (by kernel_rfl) (by simp) ?_
          refine AllReadyH.cons rfl (fun K hK => ?_) AllReadyH.nil
          go_simp
          refine hK.out _ _ hHeld (fun hHeld => ?_)
          clear hK K
          refine wpAnyH_ready (rs := [10]) (by kernel_rfl) (by simp) ?_
          refine AllReadyH.cons rfl (fun K hK => ?_) AllReadyH.nil
          refine step_appG _ rfl (.tmp 53) (.tmp 58) 37 65 iB _ 5 64 Tryz.underlying37 hiB hzB0 hzB1 hzB2 rfl (by decide) rfl 0 _ j _ rfl hto6 (.slice (some ⟨w5.heap.size, 0, none⟩) 1 1) 1 [.string ⟨#[0]⟩, .string f, .int .i64 pa, .string ⟨#[0]⟩, .int .i64 0] rfl (Row.of_blk hXd rfl 1 1) rfl (by simp [Value.oneCell']) (by omega) (by unfold maxLen; omega) (Nat.zero_le _) ?_
          intro v7 w7 h1 h3 h4
          have hblk7 := ((HX6.out.st.rest.blk).below HBD.out).grown h3 (fun e => absurd (own_tag hto6 e.symm (HX6.out.st.rest.blk.below HBD.out)) (by decide))
          have q6 : w7.cell? ⟨gs, 1, none⟩ = some (.slice yb j cb) := hblk7.cell 1
          have q7 : w7.frozen? ⟨gs, 1, none⟩ = false := hblk7.frozen 1
          have hH7 := hHeld.grown h3 (fun e => absurd (own_tag hto6 e.symm hHeld) (by decide))
          have hne7 : kY ≠ gs := fun e => by subst e; exact absurd (blk_tag hH7 hblk7) (by decide)
          obtain ⟨y7, c7, rfl⟩ := row_shape h1
          have HA9 : Hid (NX w (w7.setCell ⟨gs, 1, none⟩ (.slice y7 (j + 1) c7)) gs hv5 (.slice y7 (j + 1) c7) b (hostsN (hs.take (j + 1))) (bindsN (hs.take (j + 1)))) := by
            have hst := st_hint HX6.out.st HBD.out (x := hintB ⟨pn, pa⟩) (v' := .slice y7 (j + 1) c7) (w2 := w7) (by rw [HLB.out]; unfold bV hintB; rw [← HF.out]; exact h1) h3 (fun k hk => (h4 k hk).imp id (fun e => Nat.le_trans HBD.out.size e)) (by rw [HLB.out]; omega) (⟨show rootB.size ≤ 255 by decide, by show (fdB pn).size ≤ 255; rw [← HF.out]; exact HF5.out, show rootB.size ≤ 255 by decide⟩)
            rw [bindsN_take (by have := HN.out; omega), ← HQ.out]
            exact HX6.out.turn hst.1 hst.2.1 hst.2.2
          clear h1 h3 h4 hblk7 hto6
          refine hK.out _ _ hH7 (fun hHeld => ?_)
          clear hK K
          simp only [Act.put, List.getElem_toArray, List.getElem_cons_succ, List.getElem_cons_zero, List.setIfInBounds_toArray, List.set_cons_zero, List.set_cons_succ]
          refine wpAnyH_take (i := 11) (v := .pointer (some ⟨gs, 0, none⟩)) rfl (by kernel_rfl) (by kernel_rfl) (by kernel_rfl) (fun _ _ _ h => h) (Or.inl ⟨by rfl, ?_⟩) hHeld ?_
          · intro u hu
            go_simp
          simp only [Act.put, List.getElem_toArray, List.getElem_cons_succ, List.getElem_cons_zero, List.setIfInBounds_toArray, List.set_cons_zero, List.set_cons_succ]
          refine wpAnyH_take (i := 12) (v := .pointer (some ⟨gs, 1, none⟩)) rfl (by kernel_rfl) (by kernel_rfl) (by kernel_rfl) (fun _ _ _ h => h) (Or.inl ⟨by rfl, ?_⟩) hHeld ?_
          · intro u hu
            go_simp
          simp only [Act.put, List.getElem_toArray, List.getElem_cons_succ, List.getElem_cons_zero, List.setIfInBounds_toArray, List.set_cons_zero, List.set_cons_succ]
          refine wpAnyH_ready (rs := [13]) (by kernel_rfl) (by simp) ?_
          refine AllReadyH.cons rfl (fun K hK => ?_) AllReadyH.nil
          go_simp
          refine hK.out _ _ (hH7.other hne7 _ _) (fun hHeld => ?_)
          clear hK K
          refine wpAnyH_done (by kernel_rfl) ?_ _
          go_wp2
          go_roundw
          case rel => exact ⟨j + 1, _, _, by omega, by go_num, HA9⟩
          case measure => simp [intOf]; omega
    · have hjn' : decide (j < N) = false := by simpa using hjn
      have hjN : j = N := by omega
      have HE : Hid (NX w wr gs hv bv b (hostsN hs) (bindsN hs)) := by
        have := HX.out
        rw [show hs.take j = hs by rw [hjN, HN.out, List.take_length]] at this
        exact this
      clear HX
      go_wp2
      go_ret2
      exact ⟨_, _, _, _, rfl, HE.out⟩

end Cu
end Go.Proofs.YtnjgdfmldjgloaaGreat
