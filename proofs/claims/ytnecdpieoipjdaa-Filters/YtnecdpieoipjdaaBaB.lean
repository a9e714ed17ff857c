/- What copyOf of package bail gives: the questions, in memory of their own. -/
import Derived.Test.YtnecdpieoipjdaaBaA
import Derived.Test.YtnecdpieoipjdaaWlC
namespace Go.Proofs.Ytnecdpieoipjdaa
open Go.RowKit
open Pl

theorem qC_set (rs : List Qn) (k : Nat) (q : Qn) : (((qC rs).set (k * 3) (.string q.n)).set (k * 3 + 1) (.int .i64 q.t)).set (k * 3 + 2) (.int .i64 q.c) = qC (rs.set k q) := by
  apply List.ext_getElem?
  intro j
  have hlen : (qC rs).length = rs.length * 3 := qC_len rs
  by_cases hj : j < rs.length * 3
  · have hd : j / 3 < rs.length := by omega
    have hd' : j / 3 < (rs.set k q).length := by rw [List.length_set]; exact hd
    have e : j / 3 * 3 + j % 3 = j := by omega
    have a1 := qC_at hd' (j % 3) (Nat.mod_lt _ (by decide))
    have a2 := qC_at hd (j % 3) (Nat.mod_lt _ (by decide))
    rw [e] at a1 a2
    rw [a1, List.getElem_set]
    by_cases h2 : j = k * 3 + 2
    · subst h2
      rw [List.getElem?_set_self (by simp only [List.length_set]; rw [hlen]; exact hj), if_pos (by omega), show (k * 3 + 2) % 3 = 2 from by omega]
      rfl
    · rw [List.getElem?_set_ne (fun e => h2 e.symm)]
      by_cases h1 : j = k * 3 + 1
      · subst h1
        rw [List.getElem?_set_self (by simp only [List.length_set]; rw [hlen]; exact hj), if_pos (by omega), show (k * 3 + 1) % 3 = 1 from by omega]
        rfl
      · rw [List.getElem?_set_ne (fun e => h1 e.symm)]
        by_cases h0 : j = k * 3
        · subst h0
          rw [List.getElem?_set_self (by rw [hlen]; exact hj), if_pos (by omega), show (k * 3) % 3 = 0 from by omega]
          rfl
        · rw [List.getElem?_set_ne (fun e => h0 e.symm), a2, if_neg (by omega)]
  · rw [List.getElem?_eq_none (by simp only [List.length_set]; rw [hlen]; omega), List.getElem?_eq_none (by rw [qC_len, List.length_set]; omega)]
theorem made3 (n : Nat) : (madeCells (Value.agg #[.string ⟨#[]⟩, .int .i64 0, .int .i64 0]).cells (n * 3)).toList = qC (List.replicate n ⟨⟨#[]⟩, 0, 0⟩) := by
  apply List.ext_getElem?
  intro j
  by_cases hj : j < n * 3
  · have hd : j / 3 < (List.replicate n (⟨⟨#[]⟩, 0, 0⟩ : Qn)).length := by rw [List.length_replicate]; omega
    have a1 := qC_at hd (j % 3) (Nat.mod_lt _ (by decide))
    rw [show j / 3 * 3 + j % 3 = j from by omega] at a1
    rw [a1, List.getElem_replicate]
    unfold madeCells
    rw [Array.getElem?_toList, Array.getElem?_map, Array.getElem?_range]
    rw [if_pos hj]
    simp only [Option.map_some, Value.cells]
    have h5 : j % 3 = 0 ∨ j % 3 = 1 ∨ j % 3 = 2 := by omega
    show some ((#[Value.string ⟨#[]⟩, .int .i64 0, .int .i64 0] : Array Value)[j % 3]!) = _
    rcases h5 with e | e | e <;> rw [e] <;> rfl
  · rw [List.getElem?_eq_none (by rw [Array.length_toList, size_madeCells]; omega), List.getElem?_eq_none (by rw [qC_len, List.length_replicate]; omega)]
/-- The first k questions, and none. -/
def qTo (qs : List Qn) (k : Nat) : List Qn := qs.take k ++ List.replicate (qs.length - k) ⟨⟨#[]⟩, 0, 0⟩
theorem qTo_len {qs : List Qn} {k : Nat} (h : k ≤ qs.length) : (qTo qs k).length = qs.length := by
  unfold qTo; rw [List.length_append, List.length_take, List.length_replicate]; omega
theorem qTo_set {qs : List Qn} {k : Nat} (h : k < qs.length) : (qTo qs k).set k qs[k] = qTo qs (k + 1) := by
  have hl : (qs.take k).length = k := by rw [List.length_take]; omega
  unfold qTo
  rw [List.set_append_right _ _ (by omega), hl, Nat.sub_self, show qs.length - k = (qs.length - (k + 1)) + 1 from by omega, List.replicate_succ, List.set_cons_zero, List.take_succ_eq_append_getElem h, List.append_assoc]
  rfl
theorem qTo_all (qs : List Qn) : qTo qs qs.length = qs := by
  unfold qTo; rw [Nat.sub_self]; simp
/-- Three cells of a row are set. -/
def put3at (w : World) (g k : Nat) (a b c : Value) : World := ((w.setCell ⟨g, k * 3, none⟩ a).setCell ⟨g, k * 3 + 1, none⟩ b).setCell ⟨g, k * 3 + 2, none⟩ c
theorem put3at_turn (w : World) (g k : Nat) (a b c : Value) : Turn (fun i => i = g) w (put3at w g k a b c) := by
  have T : ∀ (u : World) (i : Nat) (v : Value), Turn (fun k => k = g) u (u.setCell ⟨g, i, none⟩ v) := fun u i v => Turn.of_set (S := fun k => k = g) u (p := ⟨g, i, none⟩) rfl v
  exact ((T _ _ _).same (T _ _ _)).same (T _ _ _)

/-- How far copyOf is. -/
structure QL (w0 w : World) (gr n : Nat) (xs : List Qn) : Prop where
  own : w.ownsRow w0.heap.size 58 3 (.slice (some ⟨gr, 0, none⟩) n n) n (qC xs)
  len : xs.length = n
  below : Below w0.heap.size w0 w
theorem QL.past {w0 w w' : World} {gr n : Nat} {xs : List Qn} (h : QL w0 w gr n xs) (hb : Below w.heap.size w w') : QL w0 w' gr n xs := ⟨own_past h.own hb, h.len, next h.below hb⟩
theorem QL.gr {w0 w : World} {gr n : Nat} {xs : List Qn} (h : QL w0 w gr n xs) : w0.heap.size ≤ gr ∧ gr < w.heap.size := h.own.lt gr rfl
theorem QL.turn {w0 w w' : World} {gr n g : Nat} {xs : List Qn} (h : QL w0 w gr n xs) (ht : Turn (fun k => k = g) w w') (hg : gr < g) : QL w0 w' gr n xs := by
  have := h.gr
  exact ⟨ht.row h.own (fun k hk e => by simp [Value.ownBlock] at hk; omega), h.len, Turn.below h.below ht h.below.size (fun i e => by omega)⟩
theorem QL.put {w0 w : World} {gr n : Nat} {xs : List Qn} (h : QL w0 w gr n xs) (k : Nat) (q : Qn) : QL w0 (put3at w gr k (.string q.n) (.int .i64 q.t) (.int .i64 q.c)) gr n (xs.set k q) := by
  have o2 := (((h.own.stored (k * 3) (.string q.n)).1.stored (k * 3 + 1) (.int .i64 q.t)).1.stored (k * 3 + 2) (.int .i64 q.c)).1
  rw [qC_set xs k q] at o2
  exact ⟨o2, by rw [List.length_set]; exact h.len, Turn.below h.below (put3at_turn _ _ _ _ _ _) h.below.size (fun i e => by rw [e]; exact h.gr.1)⟩
theorem QL.three {w0 w : World} {gr n : Nat} {xs : List Qn} (h : QL w0 w gr n xs) {k : Nat} (hk : k < n) :
    (∃ a, w.cell? ⟨gr, k * 3, none⟩ = some a) ∧ (∃ a, w.cell? ⟨gr, k * 3 + 1, none⟩ = some a) ∧ (∃ a, w.cell? ⟨gr, k * 3 + 2, none⟩ = some a) ∧
    w.frozen? ⟨gr, k * 3, none⟩ = false ∧ w.frozen? ⟨gr, k * 3 + 1, none⟩ = false ∧ w.frozen? ⟨gr, k * 3 + 2, none⟩ = false := by
  have hl := h.len
  refine ⟨?_, ?_, ?_, h.own.frozenAt _, h.own.frozenAt _, h.own.frozenAt _⟩
  · rw [h.own.cellAt _ (by omega)]; exact ⟨_, List.getElem?_eq_getElem (by rw [qC_len]; omega)⟩
  · rw [h.own.cellAt _ (by omega)]; exact ⟨_, List.getElem?_eq_getElem (by rw [qC_len]; omega)⟩
  · rw [h.own.cellAt _ (by omega)]; exact ⟨_, List.getElem?_eq_getElem (by rw [qC_len]; omega)⟩

set_option maxRecDepth 20000 in
set_option maxHeartbeats 1000000 in
theorem copyOf_any (v : Value) (qs : List Qn) (w : World) (h : Row w v qs.length (qC qs)) (hl : qs.length * 32 ≤ 140737488351232) (hs : ∀ x ∈ qs, x.n.size ≤ 140737488351232) :
    Calls Try.prog 19 #[v] w fun e w' => ∃ (y : Option Addr) (c : Nat), e = .returned (.slice y qs.length c) ∧ w'.ownsRow w.heap.size 58 3 (.slice y qs.length c) qs.length (qC qs) ∧ Below w.heap.size w w' := by
  obtain ⟨i0, hi, hz0, hz1, hz2⟩ := info_parts infoQ
  obtain ⟨N, hN⟩ : ∃ N, N = qs.length := ⟨_, rfl⟩
  obtain ⟨x, c, hv⟩ := row_slice h
  rw [← hN] at hv hl
  subst hv
  have HN : Hid (N = qs.length) := hN
  have HD : Hid (∀ x ∈ qs, x.n.size ≤ 140737488351232) := hs
  have HR : Hid (Row w (.slice x N c) qs.length (qC qs)) := h
  have hmk : ∀ u : World, (Instr.makeSlice 24 (.int .i64 (N : Int)) (.int .i64 (N : Int))).run Try.prog u = .ok (.slice (some ⟨u.heap.size, 0, none⟩) N N) (u.alloc (.cells (madeCells (Value.agg #[.string ⟨#[]⟩, .int .i64 0, .int .i64 0]).cells (N * 3)) 58)) := fun u => by
    have := run_make (P := Try.prog) u 24 58 i0 _ Try.underlying24 hi hz0 .i64 .i64 (N : Int) (N : Int) (by omega) (by omega) (by rw [hz2]; omega) (by omega)
    rw [hz1, Int.toNat_natCast] at this
    exact this
  have HM : Hid ((madeCells (Value.agg #[.string ⟨#[]⟩, .int .i64 0, .int .i64 0]).cells (N * 3)).toList = qC (List.replicate N ⟨⟨#[]⟩, 0, 0⟩)) := made3 N
  obtain ⟨M, hM⟩ : ∃ M, M = madeCells (Value.agg #[.string ⟨#[]⟩, .int .i64 0, .int .i64 0]).cells (N * 3) := ⟨_, rfl⟩
  rw [← hM] at HM
  simp only [← hM] at hmk
  rw [← hN]
  have HS : Hid (QL w (w.alloc (.cells M 58)) w.heap.size N (qTo qs 0)) := by
    have hz : qTo qs 0 = List.replicate N ⟨⟨#[]⟩, 0, 0⟩ := by unfold qTo; rw [hN]; simp
    refine ⟨?_, by rw [hz, List.length_replicate], lay (Below.refl _ _) _⟩
    rw [hz]
    exact own_blk (Blk.new w M 58) (Nat.le_refl _) HM.out (by rw [qC_len, List.length_replicate]) (by unfold maxLen; omega)
  clear hM hN h hs HM
  go_enter Try.func19, Try.ntmps19
  go_wp2
  obtain ⟨gr, hgr⟩ : ∃ gr, gr = w.heap.size := ⟨_, rfl⟩
  rw [← hgr] at HS ⊢
  have HG : Hid (gr = w.heap.size) := hgr
  clear hgr hmk
  go_loopw [4, 5, 11] (fun _ _ i wr => ∃ j : Nat, j ≤ N ∧ i = .int .i64 (j : Int) ∧ Hid (QL w wr gr N (qTo qs j))) (fun _ _ i _ => N - (intOf i).toNat)
  case atStart => exact ⟨0, Nat.zero_le _, rfl, HS⟩
  case round =>
    clear HS
    obtain ⟨j, hj, rfl, HS⟩ := hrel
    by_cases hjn : j < N
    · have hjm : j < qs.length := by have := HN.out; omega
      have hjn' : (j : Int) < (N : Int) := by omega
      obtain ⟨g', o, cap, hx, hcc⟩ := row_at (HN.out ▸ HR.out.below HS.out.below) (by omega)
      simp only [Value.slice.injEq] at hx
      obtain ⟨rfl, -, rfl⟩ := hx
      obtain ⟨d0, d1, d2⟩ := q_cells hcc hjm
      have hcl := fun u => clone_far qs[j].n u (Nat.le_trans (HD.out _ (List.getElem_mem hjm)) (by decide))
      have ST : Hid (∀ {u : World}, QL w u gr N (qTo qs j) → QL w (put3at u gr j (.string qs[j].n) (.int .i64 qs[j].t) (.int .i64 qs[j].c)) gr N (qTo qs (j + 1))) := fun h => by
        have := h.put j qs[j]
        rw [qTo_set hjm] at this
        exact this
      obtain ⟨q, hq⟩ : ∃ q, q = qs[j] := ⟨_, rfl⟩
      simp only [← hq] at d0 d1 d2 hcl ST
      obtain ⟨qn, qt, qc⟩ := q
      simp only at d0 d1 d2 hcl ST
      clear hcc hq
      have HW : Hid (gr < wr.heap.size) := HS.out.gr.2
      have HS1 : Hid (QL w (wr.alloc (.cells #[.string qn, .int .i64 qt, .int .i64 qc] 58)) gr N (qTo qs j)) := HS.out.past (lay (Below.refl _ _) _)
      go_wp2_with (go_at_call 29; go_must (refine (hcl _).mono ?_); rintro e w2 ⟨rfl, b3⟩; have K2 : Blk w2 wr.heap.size #[.string qn, .int .i64 qt, .int .i64 qc] 58 := (Blk.new wr _ _).below b3; replace HS1 : Hid (QL w w2 gr N (qTo qs j)) := HS1.out.past b3; have k0 := K2.cell 0; have k1 := K2.frozen 0; have K3 : Blk (w2.setCell ⟨wr.heap.size, 0, none⟩ (.string qn)) wr.heap.size #[.string qn, .int .i64 qt, .int .i64 qc] 58 := K2.set 0 (.string qn); have m0 := K3.cell 0; have m1 := K3.cell 1; have m2 := K3.cell 2; replace HS1 : Hid (QL w (w2.setCell ⟨wr.heap.size, 0, none⟩ (.string qn)) gr N (qTo qs j)) := HS1.out.turn (Turn.of_set (S := fun k => k = wr.heap.size) w2 (p := ⟨wr.heap.size, 0, none⟩) rfl _) HW.out; obtain ⟨⟨z0, r0⟩, ⟨z1, r1⟩, ⟨z2, r2⟩, f0, f1, f2⟩ := HS1.out.three hjn; replace HS1 : Hid (QL w (put3at (w2.setCell ⟨wr.heap.size, 0, none⟩ (.string qn)) gr j (.string qn) (.int .i64 qt) (.int .i64 qc)) gr N (qTo qs (j + 1))) := ST.out HS1.out; clear b3 K2 K3)
      go_roundw
      case rel => exact ⟨j + 1, by omega, by go_num, HS1⟩
      case measure => simp [intOf]; omega
    · have hjn' : decide (j < N) = false := by simpa using hjn
      have HE : Hid (qTo qs j = qs) := by unfold Hid; rw [show j = qs.length from by have := HN.out; omega]; exact qTo_all _
      go_wp2
      go_ret
      exact ⟨_, _, rfl, by rw [← HE.out]; exact HS.out.own, HS.out.below⟩

end Go.Proofs.Ytnecdpieoipjdaa
