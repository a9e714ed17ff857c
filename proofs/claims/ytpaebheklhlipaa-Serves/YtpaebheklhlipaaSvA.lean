/- Rows of bindings and of texts: copied, lent, alike, kept. -/
import Derived.Test.YtpaebheklhlipaaStB
import Derived.Test.YtpaebheklhlipaaStM
import Derived.Test.YtpaebheklhlipaaGnD
import Derived.Laws.StructEq
namespace Go.Proofs.Ytpaebheklhlipaa
open Go.RowKit
open Pl
namespace Sv

/-- A binding. -/
structure Bn where
  c : ByteArray
  h : ByteArray
  a : Int
  f : ByteArray
  u : Int
def bV (x : Bn) : List Value := [.string x.c, .string x.h, .int .i64 x.a, .string x.f, .int .i64 x.u]
def bC (bs : List Bn) : List Value := bs.flatMap bV
theorem own_take {w : World} {base e z n k g cap : Nat} {xs : List Value} (h : w.ownsRow base e z (.slice (some ⟨g, 0, none⟩) n cap) n xs) (hk : k ≤ n) : w.ownsRow base e z (.slice (some ⟨g, 0, none⟩) k cap) k (xs.take (k * z)) := by
  have hl := h.1
  have hz : k * z ≤ n * z := Nat.mul_le_mul_right z hk
  refine ⟨by rw [List.length_take]; omega, ?_⟩
  rcases h.2 with ⟨h1, _⟩ | ⟨g', cap', cur, h1, hb, hg, hnc, hcm, hcs, hx⟩
  · cases h1
  · simp only [Value.slice.injEq, true_and, Option.some.injEq, Addr.mk.injEq] at h1
    obtain ⟨⟨rfl, _⟩, rfl⟩ := h1
    exact .inr ⟨g, cap, cur, rfl, hb, hg, by omega, hcm, hcs, by rw [← hx, List.take_take, Nat.min_eq_left hz]⟩
theorem lendT_own (v : Value) (ds : List ByteArray) (w : World) (h : Row w v ds.length (tC ds)) (hn : ds.length ≤ 8796093022000) :
    Calls Try.prog 6 #[v] w fun e w' => ∃ g cap, e = .returned (.slice (some ⟨g, 0, none⟩) ds.length cap) ∧ ds.length + 2 ≤ cap ∧ Lies w' g (tC ds ++ tC mkT) ∧ w'.ownsRow w.heap.size 9 1 (.slice (some ⟨g, 0, none⟩) ds.length cap) ds.length (tC ds) ∧ Below w.heap.size w w' := by
  obtain ⟨i0, hi, hz0, hz1, hz2⟩ := info_parts info9'
  obtain ⟨N, hN⟩ : ∃ N, N = ds.length := ⟨_, rfl⟩
  have HN : Hid (N = ds.length) := hN
  obtain ⟨x, c, hv⟩ := row_slice h
  have hc := copyT_any v ds w h hn
  rw [← hN] at hv hn ⊢
  subst hv
  clear hN
  go_enter Try.func6, Try.ntmps6
  go_wp2_with (first
    | (go_at_call 24; go_must (refine hc.mono ?_); rintro e w1 ⟨v1, rfl, hown, hb⟩; rw [← HN.out] at hown)
    | (at_builtin; refine wpList_appG _ rfl (.tmp 5) (.tmp 6) 22 9 i0 _ 1 16 Try.underlying22 hi hz0 hz1 hz2 rfl (by decide) rfl w.heap.size _ N (tC ds) rfl (hown.alloc _) (.slice (some ⟨w1.heap.size, 0, none⟩) 2 2) 2 (tC mkT) rfl (Row.of_blk (Blk.new w1 #[.string ⟨#[126, 114, 111, 111, 109]⟩, .string ⟨#[126, 98, 101, 104, 105, 110, 100]⟩] 9) rfl 2 2) rfl (tC_one _) (by omega) (by unfold maxLen; omega) (lay hb _).size ?_; intro v2 w2 h1 h3 _; obtain ⟨g, cap, rfl, _, _⟩ := h1.form (by omega); obtain ⟨hl, hcap⟩ := lies_own h1; have hcap2 : N ≤ cap := (by omega); have HOT := own_take (k := N) h1 (by omega); have hb2 : Below w.heap.size w w2 := (lay hb _).grown h3 (lay hb _).size (fun j e => (hown.lt j e).1); clear h1 h3))
  go_ret
  refine ⟨g, cap, rfl, hcap, hl, ?_, hb2⟩
  rw [Nat.mul_one, List.take_append_of_le_length (by rw [tC_len, ← HN.out]; exact Nat.le_refl _), List.take_of_length_le (by rw [tC_len, ← HN.out]; exact Nat.le_refl _)] at HOT
  exact HOT

theorem infoBg : (Try.prog.info? 37).map (fun i => (i.zero, i.size, i.bytes)) = some (some (.agg #[.string ⟨#[]⟩, .string ⟨#[]⟩, .int .i64 0, .string ⟨#[]⟩, .int .i64 0]), 5, 64) := by kernel_rfl
theorem atBg {xs : List Bn} {k : Nat} (hk : k < xs.length) (i : Nat) (hi : i < 5) : (bC xs)[k * 5 + i]? = (bV xs[k])[i]? := flat_get (f := bV) (z := 5) (fun _ => rfl) xs k hk i hi
theorem lenBg (xs : List Bn) : (bC xs).length = xs.length * 5 := flat_len (f := bV) (z := 5) (fun _ => rfl) xs
theorem oneBg (xs : List Bn) : ∀ u ∈ bC xs, u.oneCell' = true := by
  intro u hu
  unfold bC at hu
  obtain ⟨p, _, hu⟩ := List.mem_flatMap.1 hu
  unfold bV at hu
  simp at hu
  rcases hu with rfl | rfl | rfl | rfl | rfl <;> rfl
def mkBg : List Bn := [⟨⟨#[]⟩, ⟨#[]⟩, 77777, ⟨#[]⟩, 0⟩, ⟨⟨#[]⟩, ⟨#[]⟩, 77777, ⟨#[]⟩, 0⟩]
theorem copyBg_any (v : Value) (xs : List Bn) (w : World) (h : Row w v xs.length (bC xs)) (hn : xs.length ≤ 2199023255490) :
    Calls Try.prog 25 #[v] w fun e w' => ∃ v', e = .returned v' ∧ w'.ownsRow w.heap.size 37 5 v' xs.length (bC xs) ∧ Below w.heap.size w w' := by
  obtain ⟨i0, hi, hz0, hz1, hz2⟩ := info_parts infoBg
  have hb := lay (Below.refl w.heap.size w) (.cells #[] 37)
  have h2 := h.below hb
  have hown := own_blk (B := w.heap.size) (z := 5) (n := 0) (xs := []) (Blk.new w #[] 37) (Nat.le_refl _) rfl rfl (Nat.zero_le _)
  obtain ⟨x, c, rfl⟩ := row_slice h
  go_enter Try.func25, Try.ntmps25
  go_wp2_with (at_builtin; refine wpList_appG _ rfl (.tmp 3) (.tmp 4) 23 37 i0 _ 5 64 Try.underlying23 hi hz0 hz1 hz2 rfl (by decide) rfl w.heap.size _ 0 [] rfl hown _ xs.length (bC xs) rfl h2 (lenBg xs) (oneBg xs) (by omega) (by unfold maxLen; omega) hb.size ?_; intro v' w2 h1 h3 _)
  go_ret
  exact ⟨_, rfl, by simpa using h1, hb.grown h3 hb.size (fun j e => (hown.lt j e).1)⟩
theorem lendBg_any (v : Value) (xs : List Bn) (w : World) (h : Row w v xs.length (bC xs)) (hn : xs.length ≤ 2199023255490) :
    Calls Try.prog 7 #[v] w fun e w' => ∃ g cap, e = .returned (.slice (some ⟨g, 0, none⟩) xs.length cap) ∧ xs.length + 2 ≤ cap ∧ Lies w' g (bC xs ++ bC mkBg) ∧ w'.ownsRow w.heap.size 37 5 (.slice (some ⟨g, 0, none⟩) xs.length cap) xs.length (bC xs) ∧ Below w.heap.size w w' := by
  obtain ⟨i0, hi, hz0, hz1, hz2⟩ := info_parts infoBg
  obtain ⟨N, hN⟩ : ∃ N, N = xs.length := ⟨_, rfl⟩
  have HN : Hid (N = xs.length) := hN
  obtain ⟨x, c, hv⟩ := row_slice h
  have hc := copyBg_any v xs w h hn
  rw [← hN] at hv hn ⊢
  subst hv
  clear hN
  go_enter Try.func7, Try.ntmps7
  go_wp2_with (first
    | (go_at_call 25; go_must (refine hc.mono ?_); rintro e w1 ⟨v1, rfl, hown, hb⟩; rw [← HN.out] at hown)
    | (at_builtin; refine wpList_appG _ rfl (.tmp 5) (.tmp 8) 23 37 i0 _ 5 64 Try.underlying23 hi hz0 hz1 hz2 rfl (by decide) rfl w.heap.size _ N (bC xs) rfl (hown.alloc _) (.slice (some ⟨w1.heap.size, 0, none⟩) 2 2) 2 (bC mkBg) rfl (Row.of_blk (Blk.new w1 #[.string ⟨#[]⟩, .string ⟨#[]⟩, .int .i64 77777, .string ⟨#[]⟩, .int .i64 0, .string ⟨#[]⟩, .string ⟨#[]⟩, .int .i64 77777, .string ⟨#[]⟩, .int .i64 0] 37) rfl 2 2) rfl (oneBg _) (by omega) (by unfold maxLen; omega) (lay hb _).size ?_; intro v2 w2 h1 h3 _; obtain ⟨g, cap, rfl, _, _⟩ := h1.form (by omega); obtain ⟨hl, hcap⟩ := lies_own h1; have hcap2 : N ≤ cap := (by omega); have HOT := own_take (k := N) h1 (by omega); have hb2 : Below w.heap.size w w2 := (lay hb _).grown h3 (lay hb _).size (fun j e => (hown.lt j e).1); clear h1 h3))
  go_ret
  refine ⟨g, cap, rfl, hcap, hl, ?_, hb2⟩
  rw [List.take_append_of_le_length (by rw [lenBg, ← HN.out]; exact Nat.le_refl _), List.take_of_length_le (by rw [lenBg, ← HN.out]; exact Nat.le_refl _)] at HOT
  exact HOT
theorem sameBg_neq (c h f : ByteArray) (a u : Int) (U : World) : (binOp .neq 37 (.agg #[.string c, .string h, .int .i64 a, .string f, .int .i64 u]) (.agg #[.string c, .string h, .int .i64 a, .string f, .int .i64 u])).run Try.prog U = .ok (.bool false) U := by
  rw [run_neq_struct (P := Try.prog) (w := U) 37 #[.string c, .string h, .int .i64 a, .string f, .int .i64 u] #[.string c, .string h, .int .i64 a, .string f, .int .i64 u]]
  rw [show (10000 : Nat) = 9999 + 1 from rfl, run_equalIn_struct (P := Try.prog) U 9999 37 #[.string c, .string h, .int .i64 a, .string f, .int .i64 u] #[.string c, .string h, .int .i64 a, .string f, .int .i64 u] (by kernel_rfl) (by kernel_rfl)]
  go_simp
theorem sameBg_eql (c h f : ByteArray) (a u : Int) (U : World) : (binOp .eql 37 (.agg #[.string c, .string h, .int .i64 a, .string f, .int .i64 u]) (.agg #[.string c, .string h, .int .i64 a, .string f, .int .i64 u])).run Try.prog U = .ok (.bool true) U := by
  have h1 := run_eql_struct (P := Try.prog) (w := U) 37 #[.string c, .string h, .int .i64 a, .string f, .int .i64 u] #[.string c, .string h, .int .i64 a, .string f, .int .i64 u]
  rw [h1]
  rw [show (10000 : Nat) = 9999 + 1 from rfl, run_equalIn_struct (P := Try.prog) U 9999 37 #[.string c, .string h, .int .i64 a, .string f, .int .i64 u] #[.string c, .string h, .int .i64 a, .string f, .int .i64 u] (by kernel_rfl) (by kernel_rfl)]
  go_simp
set_option maxRecDepth 20000 in
theorem sameBg_yes (v u : Value) (xs : List Bn) (w : World) (h1 : Row w v xs.length (bC xs)) (h2 : Row w u xs.length (bC xs)) (hm : xs.length ≤ maxLen) :
    Calls Try.prog 31 #[v, u] w fun e w' => e = .returned (.bool true) ∧ Below w.heap.size w w' := by
  obtain ⟨N, hN⟩ : ∃ N, N = xs.length := ⟨_, rfl⟩
  obtain ⟨x, c, rfl⟩ := row_slice h1
  obtain ⟨x', c', rfl⟩ := row_slice h2
  have HN : Hid (N = xs.length) := hN
  rw [← hN] at h1 h2 hm ⊢
  unfold maxLen at hm
  have HR1 : Hid (Row w (.slice x N c) N (bC xs)) := h1
  have HR2 : Hid (Row w (.slice x' N c') N (bC xs)) := h2
  have hne : ((N : Int) != (N : Int)) = false := by simp
  clear h1 h2 hN
  go_enter Try.func31, Try.ntmps31
  go_wp2
  go_loopw [5] (fun i wr => ∃ k : Nat, k ≤ N ∧ i = .int .i64 (k : Int) ∧ Hid (Below w.heap.size w wr)) (fun i _ => N - (intOf i).toNat)
  case atStart => exact ⟨0, Nat.zero_le _, rfl, Below.refl _ _⟩
  case round =>
    obtain ⟨k, hk, rfl, HB⟩ := hrel
    by_cases hkn : k < N
    · have hkn' : (k : Int) < (N : Int) := by omega
      have hka : k < xs.length := by have := HN.out; omega
      obtain ⟨g, o, cap, hx, hc⟩ := row_at (HR1.out.below HB.out) (by omega)
      obtain ⟨g', o', cap', hx', hc'⟩ := row_at (HR2.out.below HB.out) (by omega)
      simp only [Value.slice.injEq] at hx hx'
      obtain ⟨rfl, -, rfl⟩ := hx
      obtain ⟨rfl, -, rfl⟩ := hx'
      obtain ⟨⟨pc, ph, pa, pf, pu⟩, hp⟩ : ∃ p, p = xs[k] := ⟨_, rfl⟩
      have hfl := fun i hi => atBg hka i hi
      rw [← hp] at hfl
      have d0 := hc (k * 5 + 0) _ (hfl 0 (by omega))
      have d1 := hc (k * 5 + 1) _ (hfl 1 (by omega))
      have d2 := hc (k * 5 + 2) _ (hfl 2 (by omega))
      have d3 := hc (k * 5 + 3) _ (hfl 3 (by omega))
      have d4 := hc (k * 5 + 4) _ (hfl 4 (by omega))
      have e0 := hc' (k * 5 + 0) _ (hfl 0 (by omega))
      have e1 := hc' (k * 5 + 1) _ (hfl 1 (by omega))
      have e2 := hc' (k * 5 + 2) _ (hfl 2 (by omega))
      have e3 := hc' (k * 5 + 3) _ (hfl 3 (by omega))
      have e4 := hc' (k * 5 + 4) _ (hfl 4 (by omega))
      simp only [Nat.add_zero, ← Nat.add_assoc] at d0 d1 d2 d3 d4 e0 e1 e2 e3 e4
      have heq := fun u => sameBg_neq pc ph pf pa pu u
      clear hc hc' hfl hp
      go_wp2
      go_region
      go_wp2
      have HB2 : Hid (Below w.heap.size w wr.drew) := next HB.out (Below.refl _ _).drew
      go_roundw
      case rel => exact ⟨k + 1, by omega, by go_num, HB2⟩
      case measure => simp [intOf]; omega
    · have hkn' : decide (k < N) = false := by simpa using hkn
      go_wp2
      go_ret
      exact ⟨rfl, HB.out⟩
theorem marksBg {w : World} {g : Nat} {xs : List Bn} (h : Lies w g (bC xs ++ bC mkBg)) : ∀ i u, (bC mkBg)[i]? = some u → w.cell? ⟨g, xs.length * 5 + i, none⟩ = some u := fun i u hu => h _ _ (by
  rw [List.getElem?_append_right (by rw [lenBg]; omega), lenBg, Nat.add_sub_cancel_left]
  exact hu)
set_option maxRecDepth 20000 in
theorem keptBg_any (g cap : Nat) (u : Value) (xs : List Bn) (w : World) (hl : Lies w g (bC xs ++ bC mkBg)) (hcap : xs.length + 2 ≤ cap) (h2 : Row w u xs.length (bC xs)) (hn : xs.length ≤ 2199023255490) :
    Calls Try.prog 17 #[.slice (some ⟨g, 0, none⟩) xs.length cap, u] w fun e w' => e = .returned (.bool true) ∧ Below w.heap.size w w' := by
  have hsame := sameBg_yes _ u xs w (hl.row (cap := cap) (n := xs.length)) h2 (by unfold maxLen; omega)
  have HM : Hid (Lies w g (bC xs ++ bC mkBg)) := hl
  have hmk := fun u => sameBg_eql ⟨#[]⟩ ⟨#[]⟩ ⟨#[]⟩ 77777 0 u
  obtain ⟨y, d, e2⟩ := row_slice h2
  obtain ⟨N, hN⟩ : ∃ N, N = xs.length := ⟨_, rfl⟩
  have HN : Hid (N = xs.length) := hN
  rw [← hN] at hsame e2 hn hcap ⊢
  subst e2
  clear hN h2 hl
  have hcap2 : (N : Int) + 2 ≤ (cap : Int) := by omega
  go_enter Try.func17, Try.ntmps17
  go_wp2_with (go_at_call 31; go_must (refine hsame.mono ?_); rintro e w1 ⟨rfl, b1⟩; have mm := marksBg (HM.out.below b1); rw [← HN.out] at mm; have m0 := mm 0 _ rfl; have m1 := mm 1 _ rfl; have m2 := mm 2 _ rfl; have m3 := mm 3 _ rfl; have m4 := mm 4 _ rfl; have m5 := mm 5 _ rfl; have m6 := mm 6 _ rfl; have m7 := mm 7 _ rfl; have m8 := mm 8 _ rfl; have m9 := mm 9 _ rfl; have n0 : w1.cell? ⟨g, (N + 1) * 5, none⟩ = some (.string ⟨#[]⟩) := (by have h := m5; rw [show N * 5 + 5 = (N + 1) * 5 + 0 by omega] at h; exact h); have n1 : w1.cell? ⟨g, (N + 1) * 5 + 1, none⟩ = some (.string ⟨#[]⟩) := (by have h := m6; rw [show N * 5 + 6 = (N + 1) * 5 + 1 by omega] at h; exact h); have n2 : w1.cell? ⟨g, (N + 1) * 5 + 2, none⟩ = some (.int .i64 77777) := (by have h := m7; rw [show N * 5 + 7 = (N + 1) * 5 + 2 by omega] at h; exact h); have n3 : w1.cell? ⟨g, (N + 1) * 5 + 3, none⟩ = some (.string ⟨#[]⟩) := (by have h := m8; rw [show N * 5 + 8 = (N + 1) * 5 + 3 by omega] at h; exact h); have n4 : w1.cell? ⟨g, (N + 1) * 5 + 4, none⟩ = some (.int .i64 0) := (by have h := m9; rw [show N * 5 + 9 = (N + 1) * 5 + 4 by omega] at h; exact h); simp only [Nat.add_zero] at m0; clear mm m5 m6 m7 m8 m9)
  go_ret
  exact ⟨rfl, b1⟩

end Sv
end Go.Proofs.Ytpaebheklhlipaa
