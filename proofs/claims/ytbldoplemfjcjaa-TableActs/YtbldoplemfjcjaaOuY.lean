/- SameAskeds and SpoilAskeds. -/
import Derived.Test.YtbldoplemfjcjaaOuQ
import Derived.Test.YtbldoplemfjcjaaOuR
namespace Go.Proofs.Ytbldoplemfjcjaa
open Go.RowKit
open Pl
namespace Ou

theorem ak_ne (j i a : Int) (c g n : ByteArray) (t u : Int) (U : World) :
    (binOp .neq 35 (.agg #[.int .i64 j, .int .i64 i, .int .i64 a, .string c, .string g, .string n, .int .i64 t, .int .i64 u]) (.agg #[.int .i64 j, .int .i64 i, .int .i64 a, .string c, .string g, .string n, .int .i64 t, .int .i64 u])).run Try.prog U = .ok (.bool false) U := by
  have h1 := run_neq_struct (P := Try.prog) (w := U) 35 #[.int .i64 j, .int .i64 i, .int .i64 a, .string c, .string g, .string n, .int .i64 t, .int .i64 u] #[.int .i64 j, .int .i64 i, .int .i64 a, .string c, .string g, .string n, .int .i64 t, .int .i64 u]
  rw [h1]
  rw [show (10000 : Nat) = 9999 + 1 from rfl, run_equalIn_struct (P := Try.prog) U 9999 35 #[.int .i64 j, .int .i64 i, .int .i64 a, .string c, .string g, .string n, .int .i64 t, .int .i64 u] #[.int .i64 j, .int .i64 i, .int .i64 a, .string c, .string g, .string n, .int .i64 t, .int .i64 u] (by kernel_rfl) (by kernel_rfl)]
  go_simp

theorem aF_set (E : List Ak) (j : Nat) (hj : j < E.length) (x : Ak) (q : Nat) (hq : q < 8) (v : Value) (ho : (akC E[j]).set q v = akC x) : (aF E).set (j * 8 + q) v = aF (E.set j x) := by
  induction E generalizing j with
  | nil => simp at hj
  | cons y E ih =>
    cases j with
    | zero =>
      show (akC y ++ aF E).set (0 * 8 + q) v = akC x ++ aF E
      rw [List.set_append_left _ _ (by show 0 * 8 + q < 8; omega), Nat.zero_mul, Nat.zero_add]
      rw [show (akC y).set q v = akC x from ho]
    | succ j =>
      show (akC y ++ aF E).set ((j + 1) * 8 + q) v = akC y ++ aF (E.set j x)
      rw [List.set_append_right _ _ (by show 8 ≤ (j + 1) * 8 + q; omega), show (j + 1) * 8 + q - (akC y).length = j * 8 + q from by show (j + 1) * 8 + q - 8 = _; omega]
      rw [ih j (by simpa using hj) (by simpa using ho)]
set_option maxRecDepth 20000 in
set_option maxHeartbeats 2000000 in
theorem sameA_any (y1 y2 : Option Addr) (N c1 c2 : Nat) (D : List Ak) (w : World) (hN : N = D.length) (h1 : Row w (.slice y1 N c1) N (aF D)) (h2 : Row w (.slice y2 N c2) N (aF D)) (hs : N ≤ 1000) :
    Calls Try.prog 17 #[.slice y1 N c1, .slice y2 N c2] w fun e w' => e = .returned (.bool true) ∧ Below w.heap.size w w' := by
  have HN : Hid (N = D.length) := hN
  have H1 : Hid (Row w (.slice y1 N c1) N (aF D)) := h1
  have H2 : Hid (Row w (.slice y2 N c2) N (aF D)) := h2
  clear hN h1 h2
  go_enter Try.func17, Try.ntmps17
  go_wp2
  go_loopw [5] (fun q wr => ∃ j : Nat, j ≤ N ∧ q = .int .i64 (j : Int) ∧ Hid (Below w.heap.size w wr)) (fun q _ => N - (intOf q).toNat)
  case atStart => exact ⟨0, Nat.zero_le _, rfl, Below.refl _ _⟩
  case round =>
    obtain ⟨j, hj, rfl, HB⟩ := hrel
    by_cases hjn : j < N
    · have hjn' : (j : Int) < (N : Int) := by omega
      have hju : j < D.length := by have := HN.out; omega
      have hb := next HB.out (Below.refl wr.heap.size wr).drew
      obtain ⟨ga, oa, ca, hxa, hca⟩ := row_at (H1.out.below hb) (by omega)
      obtain ⟨gb, ob, cb, hxb, hcb⟩ := row_at (H2.out.below hb) (by omega)
      simp only [Value.slice.injEq] at hxa hxb
      obtain ⟨rfl, -, rfl⟩ := hxa
      obtain ⟨rfl, -, rfl⟩ := hxb
      obtain ⟨⟨xj, xi, xa, xc, xg, xn, xt, xu⟩, hp⟩ : ∃ p, p = D[j] := ⟨_, rfl⟩
      have hfl := fun q hq => aF_map D j hju q hq
      rw [← hp] at hfl
      have d0 := hca (j * 8 + 0) _ (hfl 0 (by omega))
      have e0 := hcb (j * 8 + 0) _ (hfl 0 (by omega))
      have d1 := hca (j * 8 + 1) _ (hfl 1 (by omega))
      have e1 := hcb (j * 8 + 1) _ (hfl 1 (by omega))
      have d2 := hca (j * 8 + 2) _ (hfl 2 (by omega))
      have e2 := hcb (j * 8 + 2) _ (hfl 2 (by omega))
      have d3 := hca (j * 8 + 3) _ (hfl 3 (by omega))
      have e3 := hcb (j * 8 + 3) _ (hfl 3 (by omega))
      have d4 := hca (j * 8 + 4) _ (hfl 4 (by omega))
      have e4 := hcb (j * 8 + 4) _ (hfl 4 (by omega))
      have d5 := hca (j * 8 + 5) _ (hfl 5 (by omega))
      have e5 := hcb (j * 8 + 5) _ (hfl 5 (by omega))
      have d6 := hca (j * 8 + 6) _ (hfl 6 (by omega))
      have e6 := hcb (j * 8 + 6) _ (hfl 6 (by omega))
      have d7 := hca (j * 8 + 7) _ (hfl 7 (by omega))
      have e7 := hcb (j * 8 + 7) _ (hfl 7 (by omega))
      simp only [Nat.add_zero, ← Nat.add_assoc] at d0 e0 d1 e1 d2 e2 d3 e3 d4 e4 d5 e5 d6 e6 d7 e7
      have hne := fun U : World => ak_ne xj xi xa xc xg xn xt xu U
      clear hca hcb hfl hp
      go_wp2
      go_region_held_law (fun q => q.cell? ⟨ga, oa + j * 8, none⟩ = some (.int .i64 xj) ∧ q.cell? ⟨ga, oa + j * 8 + 1, none⟩ = some (.int .i64 xi) ∧ q.cell? ⟨ga, oa + j * 8 + 2, none⟩ = some (.int .i64 xa) ∧ q.cell? ⟨ga, oa + j * 8 + 3, none⟩ = some (.string xc) ∧ q.cell? ⟨ga, oa + j * 8 + 4, none⟩ = some (.string xg) ∧ q.cell? ⟨ga, oa + j * 8 + 5, none⟩ = some (.string xn) ∧ q.cell? ⟨ga, oa + j * 8 + 6, none⟩ = some (.int .i64 xt) ∧ q.cell? ⟨ga, oa + j * 8 + 7, none⟩ = some (.int .i64 xu) ∧ q.cell? ⟨gb, ob + j * 8, none⟩ = some (.int .i64 xj) ∧ q.cell? ⟨gb, ob + j * 8 + 1, none⟩ = some (.int .i64 xi) ∧ q.cell? ⟨gb, ob + j * 8 + 2, none⟩ = some (.int .i64 xa) ∧ q.cell? ⟨gb, ob + j * 8 + 3, none⟩ = some (.string xc) ∧ q.cell? ⟨gb, ob + j * 8 + 4, none⟩ = some (.string xg) ∧ q.cell? ⟨gb, ob + j * 8 + 5, none⟩ = some (.string xn) ∧ q.cell? ⟨gb, ob + j * 8 + 6, none⟩ = some (.int .i64 xt) ∧ q.cell? ⟨gb, ob + j * 8 + 7, none⟩ = some (.int .i64 xu)) (exact ⟨d0, d1, d2, d3, d4, d5, d6, d7, e0, e1, e2, e3, e4, e5, e6, e7⟩) (fail)
      go_wp2
      first
      | exact ⟨⟨j + 1, by omega, by go_num, hb⟩, by simp [intOf]; omega⟩
      | (go_roundw; (case rel => exact ⟨j + 1, by omega, by go_num, hb⟩); (case measure => simp [intOf]; omega))
    · have hjn' : decide ((j : Int) < (N : Int)) = false := by simp; omega
      go_wp2
      go_ret
      exact ⟨rfl, HB.out⟩

set_option maxRecDepth 20000 in
set_option maxHeartbeats 2000000 in
theorem spoilA_any (y : Option Addr) (N c B : Nat) (D : List Ak) (w : World) (hN : N = D.length) (h : w.ownsRow B 35 8 (.slice y N c) N (aF D)) (hs : N ≤ 1000) :
    Calls Try.prog 19 #[.slice y N c] w fun e w' => e = .returned (.tuple #[]) ∧ Turn (fun k => (Value.slice y N c).ownBlock = some k) w w' := by
  have HN : Hid (N = D.length) := hN
  have HO : Hid (w.ownsRow B 35 8 (.slice y N c) N (aF D)) := h
  clear hN h
  go_enter Try.func19, Try.ntmps19
  go_wp2
  go_loopw [2] (fun q wr => ∃ (j : Nat) (E : List Ak), j ≤ N ∧ q = .int .i64 (j : Int) ∧ Hid (wr.ownsRow B 35 8 (.slice y N c) N (aF E) ∧ E.length = N ∧ Turn (fun k => (Value.slice y N c).ownBlock = some k) w wr)) (fun q _ => N - (intOf q).toNat)
  case atStart => exact ⟨0, D, Nat.zero_le _, rfl, HO.out, HN.out.symm, Turn.refl _ _⟩
  case round =>
    obtain ⟨j, E, hj, rfl, HE⟩ := hrel
    by_cases hjn : j < N
    · have hjn' : (j : Int) < (N : Int) := by omega
      have hju : j < E.length := by have := HE.out.2.1; omega
      obtain ⟨g, cc, hy, _, _⟩ := HE.out.1.form (by omega)
      simp only [Value.slice.injEq] at hy
      obtain ⟨rfl, -, rfl⟩ := hy
      obtain ⟨⟨xj, xi, xa, xc, xg, xn, xt, xu⟩, hp⟩ : ∃ p, p = E[j] := ⟨_, rfl⟩
      have d1 := HE.out.1.cellAt (j * 8 + 1) (by omega)
      rw [aF_map E j hju 1 (by decide), ← hp] at d1
      have f1 := HE.out.1.frozenAt (j * 8 + 1)
      have d1' : wr.cell? ⟨g, j * 8 + 1, none⟩ = some (.int .i64 xi) := d1
      have HST : Hid (∀ z : Int, (wr.setCell ⟨g, j * 8 + 1, none⟩ (.int .i64 z)).ownsRow B 35 8 (.slice (some ⟨g, 0, none⟩) N c) N (aF (E.set j ⟨xj, z, xa, xc, xg, xn, xt, xu⟩)) ∧ Turn (fun k => (Value.slice (some ⟨g, 0, none⟩) N c).ownBlock = some k) w (wr.setCell ⟨g, j * 8 + 1, none⟩ (.int .i64 z))) := fun z => by
        refine ⟨?_, HE.out.2.2.same (Turn.of_set (p := ⟨g, j * 8 + 1, none⟩) (S := fun k => (Value.slice (some ⟨g, 0, none⟩) N c).ownBlock = some k) _ rfl _)⟩
        have := (HE.out.1.stored (j * 8 + 1) (.int .i64 z)).1
        rw [aF_set E j hju ⟨xj, z, xa, xc, xg, xn, xt, xu⟩ 1 (by decide) (.int .i64 z) (by rw [← hp]; rfl)] at this
        exact this
      have HL : Hid (∀ z : Int, (E.set j ⟨xj, z, xa, xc, xg, xn, xt, xu⟩).length = N) := fun z => by rw [List.length_set]; exact HE.out.2.1
      clear d1 hp HE
      go_wp2
      go_roundw
      case rel => exact ⟨j + 1, _, by omega, by go_num, (HST.out _).1, HL.out _, (HST.out _).2⟩
      case measure => simp [intOf]; omega
    · have hjn' : decide ((j : Int) < (N : Int)) = false := by simp; omega
      go_wp2
      go_end0
      exact ⟨rfl, HE.out.2.2⟩

end Ou
end Go.Proofs.Ytbldoplemfjcjaa
