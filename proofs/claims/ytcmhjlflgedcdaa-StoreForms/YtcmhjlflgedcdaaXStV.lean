/- StoreForms' nine ways: what is not held. -/
import Derived.Test.YtcmhjlflgedcdaaXP7
namespace Go.Proofs.Ytcmhjlflgedcdaa
open Go.RowKit
open Pl

def sfE : En := ⟨⟨#[1, 97, 0]⟩, 1, 5, awD, 2, 100⟩
theorem sfE1 : errP sfE 5 = 0 := by decide
theorem sfP1 : putP 3 [] sfE 5 = [sfE] := by rfl
theorem no_put {most : Nat} {F : List En} {e : En} {now : Int} (h : mayE e now = false) : errP e now = 1300 ∧ putP most F e now = F := by
  unfold errP putP
  rw [h]
  exact ⟨rfl, rfl⟩
theorem may_not {e : En} {now : Int} (h : isName e.n.data.toList = false ∨ e.t < 1 ∨ 65535 < e.t ∨ e.ds = [] ∨ e.r < 1 ∨ 3 < e.r ∨ e.u ≤ now ∨ now < 0 ∨ 1099511627776 < now) : mayE e now = false := by
  cases hm : mayE e now with
  | false => rfl
  | true =>
    obtain ⟨h1, h2, h3, h4, h5, h6, h7, h8, h9⟩ := mayE_parts hm
    rcases h with h | h | h | h | h | h | h | h | h
    · rw [h1] at h; cases h
    · omega
    · omega
    · exact absurd h h4
    · omega
    · omega
    · omega
    · omega
    · omega
theorem es_until {B : Nat} {w : World} {y : Option Addr} {c : Nat} {M : List (En × Value)} (h : ES B w (.slice y 1 c) M) (hM : fstL M = [sfE]) : ∃ g, y = some ⟨g, 0, none⟩ ∧ w.cell? ⟨g, 5, none⟩ = some (.int .i64 100) := by
  have hl : M.length = 1 := by rw [← fst_len, hM]; rfl
  have ho := h.own
  rw [hl] at ho
  obtain ⟨g, cap, e1, _, _⟩ := ho.form (by omega)
  simp only [Value.slice.injEq, true_and] at e1
  obtain ⟨rfl, rfl⟩ := e1
  refine ⟨g, rfl, ?_⟩
  rw [ho.cellAt 5 (by omega)]
  match M, hl, hM with
  | [p], _, hM =>
    have : p.1 = sfE := by unfold fstL at hM; simpa using hM
    unfold eC eVc
    simp [this, sfE]

set_option maxRecDepth 20000 in
set_option maxHeartbeats 4000000 in
theorem sf0 (which x U e : Int) (w : World) (hU : IntKind.u64.wrap which = U) (hm : U.tmod 9 = 0) (m63 : bits .and .i64 x 63 = e) (e0 : 0 ≤ e) (e1 : e < 64) :
    Calls Try.prog 6 #[.int .i64 which, .int .i64 x] w fun e w' => e = .returned (.bool true) ∧ Below w.heap.size w w' := by
  have HB : Hid (Below w.heap.size w w) := Below.refl _ _
  have HNO : Hid (∀ F, errP ⟨⟨#[97]⟩, 1, 5, awD, 2, 100⟩ 5 = 1300 ∧ putP 3 F ⟨⟨#[97]⟩, 1, 5, awD, 2, 100⟩ 5 = F) := fun F => no_put (may_not (.inl (by decide)))
  have t1 : True := trivial
  have t2 : True := trivial
  have t3 : True := trivial
  go_enter Try.func6, Try.ntmps6
  go_wp2_with (first
    | (go_at_call 11; refine (num_any _ _).mono ?_; rintro e w' ⟨rfl, hw⟩; obtain rfl := hw.symm)
    | (go_at_call 12; go_must (refine (awake_any _).mono ?_); rintro e w1 ⟨rfl, b1⟩)
    | (go_at_call 9; have _t := t1; go_must (refine (lw_new b1 3 (by decide) (by decide)).mono ?_); rintro e w2 ⟨gs, rfl, lw2⟩; clear t1)
    | (go_at_call 25; go_must (refine (set_any _ _ _ _).mono ?_); rintro e w3 ⟨g, rfl, kd3, hg3, b3⟩; have b3' := lay b3 (.cells #[.string ⟨#[1, 97, 0]⟩, .int .i64 1, .int .i64 5, .slice (some ⟨g, 0, none⟩) 1 1, .int .i64 2, .int .i64 100] 36); have lw3 := lw2.below b3'; have hgs := lw2.st.blk.lt; have kd3' := kd3.alloc (.cells #[.string ⟨#[1, 97, 0]⟩, .int .i64 1, .int .i64 5, .slice (some ⟨g, 0, none⟩) 1 1, .int .i64 2, .int .i64 100] 36); have kx3 := Blk.new w3 #[.string ⟨#[1, 97, 0]⟩, .int .i64 1, .int .i64 5, .slice (some ⟨g, 0, none⟩) 1 1, .int .i64 2, .int .i64 100] 36; have hg4 := kd3.lt; have hz3 := b3.size; have hx0 := Nat.le_trans lw2.bel.size b3.size; have hp1 := lw_put lw3 ⟨#[1, 97, 0]⟩ 1 5 2 100 5 (.slice (some ⟨g, 0, none⟩) 1 1) awD (by decide) (row_d kd3') (by decide) awS 0 sfE1 [sfE] sfP1)
    | (go_at_call 14; have _t := t2; go_must (refine hp1.mono ?_); rintro e w4 ⟨rfl, mb4, L4, lw4, T4, ft4⟩; have hno : ∀ k, foot gs none [] k → k = gs := (fun k hk => by rcases hk with e | e | ⟨p, hp, _⟩; (· exact e); (· cases e); (· simp at hp)); have kx4 := T4.blk kx3 (fun e => by have := hno _ e; omega); have kd4 := T4.blk kd3' (fun e => by have := hno _ e; omega); have HNX : Hid (¬ foot gs mb4 L4 w3.heap.size) := (fun e => by rcases ft4 _ e with e | e; (· have := hno _ e; omega); (· simp at e; omega)); have lw5 := (lw4.own (Turn.of_set (S := fun k => k = w3.heap.size) w4 (p := ⟨w3.heap.size, 0, none⟩) rfl (.string ⟨#[97]⟩)) hx0 HNX.out); have kd5 := ((Turn.of_set (S := fun k => k = w3.heap.size) w4 (p := ⟨w3.heap.size, 0, none⟩) rfl (.string ⟨#[97]⟩)).blk kd4 (by omega)); have kx5 := (kx4.set 0 (.string ⟨#[97]⟩)); have x0 := kx4.cell 0; have x1 := kx4.cell 1; have x2 := kx4.cell 2; have x3 := kx4.cell 3; have x4 := kx4.cell 4; have x5 := kx4.cell 5; have f0 := kx4.frozen 0; simp only [List.getElem?_toArray, List.getElem?_cons_succ, List.getElem?_cons_zero] at x0 x1 x2 x3 x4 x5; have hp2 := lw_put lw5 ⟨#[97]⟩ 1 5 2 100 5 (.slice (some ⟨g, 0, none⟩) 1 1) awD (by decide) (row_d kd5) (by decide) awS 1300 (HNO.out []).1 [sfE] (HNO.out _).2; clear t2 hp1 lw3 lw2 kd3 kd3' kx3 b3' kd4 lw4)
    | (go_at_call 14; go_must (refine hp2.mono ?_); rintro e w6 ⟨rfl, mb6, L6, lw6, _, _⟩; clear hp2)
    | (go_at_call 9; have _t := t3; go_must (refine (new_no (1 - (1 + e)) _ (by omega)).mono ?_); rintro e w' ⟨rfl, hw⟩; obtain rfl := hw.symm; clear t3)
    | (go_at_call 9; go_must (refine (new_no (256 + (1 + e)) _ (by omega)).mono ?_); rintro e w' ⟨rfl, hw⟩; obtain rfl := hw.symm)
    | (go_at_call 22; go_must (refine (lw6.all 1 rfl).mono ?_); rintro e w7 ⟨y7, c7, M7, rfl, es7, hf7, hl7, lw7, _⟩; obtain ⟨g7, rfl, hc7⟩ := es_until es7 (by rw [hf7]; rfl); clear es7 hf7 hl7))
  go_ret
  exact ⟨rfl, lw7.bel⟩

set_option maxRecDepth 20000 in
set_option maxHeartbeats 4000000 in
theorem sf1 (which x U e : Int) (w : World) (hU : IntKind.u64.wrap which = U) (hm : U.tmod 9 = 1) (m63 : bits .and .i64 x 63 = e) (e0 : 0 ≤ e) (e1 : e < 64) :
    Calls Try.prog 6 #[.int .i64 which, .int .i64 x] w fun e w' => e = .returned (.bool true) ∧ Below w.heap.size w w' := by
  have HB : Hid (Below w.heap.size w w) := Below.refl _ _
  have HNO : Hid (∀ F, errP ⟨⟨#[1, 97, 0]⟩, (1 - (1 + e)), 5, awD, 2, 100⟩ 5 = 1300 ∧ putP 3 F ⟨⟨#[1, 97, 0]⟩, (1 - (1 + e)), 5, awD, 2, 100⟩ 5 = F) := fun F => no_put (may_not (.inr (.inl (by show 1 - (1 + e) < 1; omega))))
  have t1 : True := trivial
  have t2 : True := trivial
  have t3 : True := trivial
  go_enter Try.func6, Try.ntmps6
  go_wp2_with (first
    | (go_at_call 11; refine (num_any _ _).mono ?_; rintro e w' ⟨rfl, hw⟩; obtain rfl := hw.symm)
    | (go_at_call 12; go_must (refine (awake_any _).mono ?_); rintro e w1 ⟨rfl, b1⟩)
    | (go_at_call 9; have _t := t1; go_must (refine (lw_new b1 3 (by decide) (by decide)).mono ?_); rintro e w2 ⟨gs, rfl, lw2⟩; clear t1)
    | (go_at_call 25; go_must (refine (set_any _ _ _ _).mono ?_); rintro e w3 ⟨g, rfl, kd3, hg3, b3⟩; have b3' := lay b3 (.cells #[.string ⟨#[1, 97, 0]⟩, .int .i64 1, .int .i64 5, .slice (some ⟨g, 0, none⟩) 1 1, .int .i64 2, .int .i64 100] 36); have lw3 := lw2.below b3'; have hgs := lw2.st.blk.lt; have kd3' := kd3.alloc (.cells #[.string ⟨#[1, 97, 0]⟩, .int .i64 1, .int .i64 5, .slice (some ⟨g, 0, none⟩) 1 1, .int .i64 2, .int .i64 100] 36); have kx3 := Blk.new w3 #[.string ⟨#[1, 97, 0]⟩, .int .i64 1, .int .i64 5, .slice (some ⟨g, 0, none⟩) 1 1, .int .i64 2, .int .i64 100] 36; have hg4 := kd3.lt; have hz3 := b3.size; have hx0 := Nat.le_trans lw2.bel.size b3.size; have hp1 := lw_put lw3 ⟨#[1, 97, 0]⟩ 1 5 2 100 5 (.slice (some ⟨g, 0, none⟩) 1 1) awD (by decide) (row_d kd3') (by decide) awS 0 sfE1 [sfE] sfP1)
    | (go_at_call 14; have _t := t2; go_must (refine hp1.mono ?_); rintro e w4 ⟨rfl, mb4, L4, lw4, T4, ft4⟩; have hno : ∀ k, foot gs none [] k → k = gs := (fun k hk => by rcases hk with e | e | ⟨p, hp, _⟩; (· exact e); (· cases e); (· simp at hp)); have kx4 := T4.blk kx3 (fun e => by have := hno _ e; omega); have kd4 := T4.blk kd3' (fun e => by have := hno _ e; omega); have HNX : Hid (¬ foot gs mb4 L4 w3.heap.size) := (fun e => by rcases ft4 _ e with e | e; (· have := hno _ e; omega); (· simp at e; omega)); have lw5 := (lw4.own (Turn.of_set (S := fun k => k = w3.heap.size) w4 (p := ⟨w3.heap.size, 1, none⟩) rfl (.int .i64 (1 - (1 + e)))) hx0 HNX.out); have kd5 := ((Turn.of_set (S := fun k => k = w3.heap.size) w4 (p := ⟨w3.heap.size, 1, none⟩) rfl (.int .i64 (1 - (1 + e)))).blk kd4 (by omega)); have kx5 := (kx4.set 1 (.int .i64 (1 - (1 + e)))); have x0 := kx4.cell 0; have x1 := kx4.cell 1; have x2 := kx4.cell 2; have x3 := kx4.cell 3; have x4 := kx4.cell 4; have x5 := kx4.cell 5; have f1 := kx4.frozen 1; simp only [List.getElem?_toArray, List.getElem?_cons_succ, List.getElem?_cons_zero] at x0 x1 x2 x3 x4 x5; have hp2 := lw_put lw5 ⟨#[1, 97, 0]⟩ (1 - (1 + e)) 5 2 100 5 (.slice (some ⟨g, 0, none⟩) 1 1) awD (by decide) (row_d kd5) (by decide) awS 1300 (HNO.out []).1 [sfE] (HNO.out _).2; clear t2 hp1 lw3 lw2 kd3 kd3' kx3 b3' kd4 lw4)
    | (go_at_call 14; go_must (refine hp2.mono ?_); rintro e w6 ⟨rfl, mb6, L6, lw6, _, _⟩; clear hp2)
    | (go_at_call 9; have _t := t3; go_must (refine (new_no (1 - (1 + e)) _ (by omega)).mono ?_); rintro e w' ⟨rfl, hw⟩; obtain rfl := hw.symm; clear t3)
    | (go_at_call 9; go_must (refine (new_no (256 + (1 + e)) _ (by omega)).mono ?_); rintro e w' ⟨rfl, hw⟩; obtain rfl := hw.symm)
    | (go_at_call 22; go_must (refine (lw6.all 1 rfl).mono ?_); rintro e w7 ⟨y7, c7, M7, rfl, es7, hf7, hl7, lw7, _⟩; obtain ⟨g7, rfl, hc7⟩ := es_until es7 (by rw [hf7]; rfl); clear es7 hf7 hl7))
  go_ret
  exact ⟨rfl, lw7.bel⟩

set_option maxRecDepth 20000 in
set_option maxHeartbeats 4000000 in
theorem sf2 (which x U e : Int) (w : World) (hU : IntKind.u64.wrap which = U) (hm : U.tmod 9 = 2) (m63 : bits .and .i64 x 63 = e) (e0 : 0 ≤ e) (e1 : e < 64) :
    Calls Try.prog 6 #[.int .i64 which, .int .i64 x] w fun e w' => e = .returned (.bool true) ∧ Below w.heap.size w w' := by
  have HB : Hid (Below w.heap.size w w) := Below.refl _ _
  have HNO : Hid (∀ F, errP ⟨⟨#[1, 97, 0]⟩, (65535 + (1 + e)), 5, awD, 2, 100⟩ 5 = 1300 ∧ putP 3 F ⟨⟨#[1, 97, 0]⟩, (65535 + (1 + e)), 5, awD, 2, 100⟩ 5 = F) := fun F => no_put (may_not (.inr (.inr (.inl (by show 65535 < 65535 + (1 + e); omega)))))
  have t1 : True := trivial
  have t2 : True := trivial
  have t3 : True := trivial
  go_enter Try.func6, Try.ntmps6
  go_wp2_with (first
    | (go_at_call 11; refine (num_any _ _).mono ?_; rintro e w' ⟨rfl, hw⟩; obtain rfl := hw.symm)
    | (go_at_call 12; go_must (refine (awake_any _).mono ?_); rintro e w1 ⟨rfl, b1⟩)
    | (go_at_call 9; have _t := t1; go_must (refine (lw_new b1 3 (by decide) (by decide)).mono ?_); rintro e w2 ⟨gs, rfl, lw2⟩; clear t1)
    | (go_at_call 25; go_must (refine (set_any _ _ _ _).mono ?_); rintro e w3 ⟨g, rfl, kd3, hg3, b3⟩; have b3' := lay b3 (.cells #[.string ⟨#[1, 97, 0]⟩, .int .i64 1, .int .i64 5, .slice (some ⟨g, 0, none⟩) 1 1, .int .i64 2, .int .i64 100] 36); have lw3 := lw2.below b3'; have hgs := lw2.st.blk.lt; have kd3' := kd3.alloc (.cells #[.string ⟨#[1, 97, 0]⟩, .int .i64 1, .int .i64 5, .slice (some ⟨g, 0, none⟩) 1 1, .int .i64 2, .int .i64 100] 36); have kx3 := Blk.new w3 #[.string ⟨#[1, 97, 0]⟩, .int .i64 1, .int .i64 5, .slice (some ⟨g, 0, none⟩) 1 1, .int .i64 2, .int .i64 100] 36; have hg4 := kd3.lt; have hz3 := b3.size; have hx0 := Nat.le_trans lw2.bel.size b3.size; have hp1 := lw_put lw3 ⟨#[1, 97, 0]⟩ 1 5 2 100 5 (.slice (some ⟨g, 0, none⟩) 1 1) awD (by decide) (row_d kd3') (by decide) awS 0 sfE1 [sfE] sfP1)
    | (go_at_call 14; have _t := t2; go_must (refine hp1.mono ?_); rintro e w4 ⟨rfl, mb4, L4, lw4, T4, ft4⟩; have hno : ∀ k, foot gs none [] k → k = gs := (fun k hk => by rcases hk with e | e | ⟨p, hp, _⟩; (· exact e); (· cases e); (· simp at hp)); have kx4 := T4.blk kx3 (fun e => by have := hno _ e; omega); have kd4 := T4.blk kd3' (fun e => by have := hno _ e; omega); have HNX : Hid (¬ foot gs mb4 L4 w3.heap.size) := (fun e => by rcases ft4 _ e with e | e; (· have := hno _ e; omega); (· simp at e; omega)); have lw5 := (lw4.own (Turn.of_set (S := fun k => k = w3.heap.size) w4 (p := ⟨w3.heap.size, 1, none⟩) rfl (.int .i64 (65535 + (1 + e)))) hx0 HNX.out); have kd5 := ((Turn.of_set (S := fun k => k = w3.heap.size) w4 (p := ⟨w3.heap.size, 1, none⟩) rfl (.int .i64 (65535 + (1 + e)))).blk kd4 (by omega)); have kx5 := (kx4.set 1 (.int .i64 (65535 + (1 + e)))); have x0 := kx4.cell 0; have x1 := kx4.cell 1; have x2 := kx4.cell 2; have x3 := kx4.cell 3; have x4 := kx4.cell 4; have x5 := kx4.cell 5; have f1 := kx4.frozen 1; simp only [List.getElem?_toArray, List.getElem?_cons_succ, List.getElem?_cons_zero] at x0 x1 x2 x3 x4 x5; have hp2 := lw_put lw5 ⟨#[1, 97, 0]⟩ (65535 + (1 + e)) 5 2 100 5 (.slice (some ⟨g, 0, none⟩) 1 1) awD (by decide) (row_d kd5) (by decide) awS 1300 (HNO.out []).1 [sfE] (HNO.out _).2; clear t2 hp1 lw3 lw2 kd3 kd3' kx3 b3' kd4 lw4)
    | (go_at_call 14; go_must (refine hp2.mono ?_); rintro e w6 ⟨rfl, mb6, L6, lw6, _, _⟩; clear hp2)
    | (go_at_call 9; have _t := t3; go_must (refine (new_no (1 - (1 + e)) _ (by omega)).mono ?_); rintro e w' ⟨rfl, hw⟩; obtain rfl := hw.symm; clear t3)
    | (go_at_call 9; go_must (refine (new_no (256 + (1 + e)) _ (by omega)).mono ?_); rintro e w' ⟨rfl, hw⟩; obtain rfl := hw.symm)
    | (go_at_call 22; go_must (refine (lw6.all 1 rfl).mono ?_); rintro e w7 ⟨y7, c7, M7, rfl, es7, hf7, hl7, lw7, _⟩; obtain ⟨g7, rfl, hc7⟩ := es_until es7 (by rw [hf7]; rfl); clear es7 hf7 hl7))
  go_ret
  exact ⟨rfl, lw7.bel⟩

set_option maxRecDepth 20000 in
set_option maxHeartbeats 4000000 in
theorem sf3 (which x U e : Int) (w : World) (hU : IntKind.u64.wrap which = U) (hm : U.tmod 9 = 3) (m63 : bits .and .i64 x 63 = e) (e0 : 0 ≤ e) (e1 : e < 64) :
    Calls Try.prog 6 #[.int .i64 which, .int .i64 x] w fun e w' => e = .returned (.bool true) ∧ Below w.heap.size w w' := by
  have HB : Hid (Below w.heap.size w w) := Below.refl _ _
  have HNO : Hid (∀ F, errP ⟨⟨#[1, 97, 0]⟩, 1, 5, [], 2, 100⟩ 5 = 1300 ∧ putP 3 F ⟨⟨#[1, 97, 0]⟩, 1, 5, [], 2, 100⟩ 5 = F) := fun F => no_put (may_not (.inr (.inr (.inr (.inl rfl)))))
  have t1 : True := trivial
  have t2 : True := trivial
  have t3 : True := trivial
  go_enter Try.func6, Try.ntmps6
  go_wp2_with (first
    | (go_at_call 11; refine (num_any _ _).mono ?_; rintro e w' ⟨rfl, hw⟩; obtain rfl := hw.symm)
    | (go_at_call 12; go_must (refine (awake_any _).mono ?_); rintro e w1 ⟨rfl, b1⟩)
    | (go_at_call 9; have _t := t1; go_must (refine (lw_new b1 3 (by decide) (by decide)).mono ?_); rintro e w2 ⟨gs, rfl, lw2⟩; clear t1)
    | (go_at_call 25; go_must (refine (set_any _ _ _ _).mono ?_); rintro e w3 ⟨g, rfl, kd3, hg3, b3⟩; have b3' := lay b3 (.cells #[.string ⟨#[1, 97, 0]⟩, .int .i64 1, .int .i64 5, .slice (some ⟨g, 0, none⟩) 1 1, .int .i64 2, .int .i64 100] 36); have lw3 := lw2.below b3'; have hgs := lw2.st.blk.lt; have kd3' := kd3.alloc (.cells #[.string ⟨#[1, 97, 0]⟩, .int .i64 1, .int .i64 5, .slice (some ⟨g, 0, none⟩) 1 1, .int .i64 2, .int .i64 100] 36); have kx3 := Blk.new w3 #[.string ⟨#[1, 97, 0]⟩, .int .i64 1, .int .i64 5, .slice (some ⟨g, 0, none⟩) 1 1, .int .i64 2, .int .i64 100] 36; have hg4 := kd3.lt; have hz3 := b3.size; have hx0 := Nat.le_trans lw2.bel.size b3.size; have hp1 := lw_put lw3 ⟨#[1, 97, 0]⟩ 1 5 2 100 5 (.slice (some ⟨g, 0, none⟩) 1 1) awD (by decide) (row_d kd3') (by decide) awS 0 sfE1 [sfE] sfP1)
    | (go_at_call 14; have _t := t2; go_must (refine hp1.mono ?_); rintro e w4 ⟨rfl, mb4, L4, lw4, T4, ft4⟩; have hno : ∀ k, foot gs none [] k → k = gs := (fun k hk => by rcases hk with e | e | ⟨p, hp, _⟩; (· exact e); (· cases e); (· simp at hp)); have kx4 := T4.blk kx3 (fun e => by have := hno _ e; omega); have kd4 := T4.blk kd3' (fun e => by have := hno _ e; omega); have HNX : Hid (¬ foot gs mb4 L4 w3.heap.size) := (fun e => by rcases ft4 _ e with e | e; (· have := hno _ e; omega); (· simp at e; omega)); have lw5 := (lw4.own (Turn.of_set (S := fun k => k = w3.heap.size) w4 (p := ⟨w3.heap.size, 3, none⟩) rfl (.slice none 0 0)) hx0 HNX.out); have kd5 := ((Turn.of_set (S := fun k => k = w3.heap.size) w4 (p := ⟨w3.heap.size, 3, none⟩) rfl (.slice none 0 0)).blk kd4 (by omega)); have kx5 := (kx4.set 3 (.slice none 0 0)); have x0 := kx4.cell 0; have x1 := kx4.cell 1; have x2 := kx4.cell 2; have x3 := kx4.cell 3; have x4 := kx4.cell 4; have x5 := kx4.cell 5; have f3 := kx4.frozen 3; simp only [List.getElem?_toArray, List.getElem?_cons_succ, List.getElem?_cons_zero] at x0 x1 x2 x3 x4 x5; have hp2 := lw_put lw5 ⟨#[1, 97, 0]⟩ 1 5 2 100 5 (.slice none 0 0) [] (by decide) (Row.nil _ _) (by decide) (fun d hd => by simp at hd) 1300 (HNO.out []).1 [sfE] (HNO.out _).2; clear t2 hp1 lw3 lw2 kd3 kd3' kx3 b3' kd4 lw4)
    | (go_at_call 14; go_must (refine hp2.mono ?_); rintro e w6 ⟨rfl, mb6, L6, lw6, _, _⟩; clear hp2)
    | (go_at_call 9; have _t := t3; go_must (refine (new_no (1 - (1 + e)) _ (by omega)).mono ?_); rintro e w' ⟨rfl, hw⟩; obtain rfl := hw.symm; clear t3)
    | (go_at_call 9; go_must (refine (new_no (256 + (1 + e)) _ (by omega)).mono ?_); rintro e w' ⟨rfl, hw⟩; obtain rfl := hw.symm)
    | (go_at_call 22; go_must (refine (lw6.all 1 rfl).mono ?_); rintro e w7 ⟨y7, c7, M7, rfl, es7, hf7, hl7, lw7, _⟩; obtain ⟨g7, rfl, hc7⟩ := es_until es7 (by rw [hf7]; rfl); clear es7 hf7 hl7))
  go_ret
  exact ⟨rfl, lw7.bel⟩

set_option maxRecDepth 20000 in
set_option maxHeartbeats 4000000 in
theorem sf4 (which x U e : Int) (w : World) (hU : IntKind.u64.wrap which = U) (hm : U.tmod 9 = 4) (m63 : bits .and .i64 x 63 = e) (e0 : 0 ≤ e) (e1 : e < 64) :
    Calls Try.prog 6 #[.int .i64 which, .int .i64 x] w fun e w' => e = .returned (.bool true) ∧ Below w.heap.size w w' := by
  have HB : Hid (Below w.heap.size w w) := Below.refl _ _
  have HNO : Hid (∀ F, errP ⟨⟨#[1, 97, 0]⟩, 1, 5, awD, (1 - (1 + e)), 100⟩ 5 = 1300 ∧ putP 3 F ⟨⟨#[1, 97, 0]⟩, 1, 5, awD, (1 - (1 + e)), 100⟩ 5 = F) := fun F => no_put (may_not (.inr (.inr (.inr (.inr (.inl (by show 1 - (1 + e) < 1; omega)))))))
  have t1 : True := trivial
  have t2 : True := trivial
  have t3 : True := trivial
  go_enter Try.func6, Try.ntmps6
  go_wp2_with (first
    | (go_at_call 11; refine (num_any _ _).mono ?_; rintro e w' ⟨rfl, hw⟩; obtain rfl := hw.symm)
    | (go_at_call 12; go_must (refine (awake_any _).mono ?_); rintro e w1 ⟨rfl, b1⟩)
    | (go_at_call 9; have _t := t1; go_must (refine (lw_new b1 3 (by decide) (by decide)).mono ?_); rintro e w2 ⟨gs, rfl, lw2⟩; clear t1)
    | (go_at_call 25; go_must (refine (set_any _ _ _ _).mono ?_); rintro e w3 ⟨g, rfl, kd3, hg3, b3⟩; have b3' := lay b3 (.cells #[.string ⟨#[1, 97, 0]⟩, .int .i64 1, .int .i64 5, .slice (some ⟨g, 0, none⟩) 1 1, .int .i64 2, .int .i64 100] 36); have lw3 := lw2.below b3'; have hgs := lw2.st.blk.lt; have kd3' := kd3.alloc (.cells #[.string ⟨#[1, 97, 0]⟩, .int .i64 1, .int .i64 5, .slice (some ⟨g, 0, none⟩) 1 1, .int .i64 2, .int .i64 100] 36); have kx3 := Blk.new w3 #[.string ⟨#[1, 97, 0]⟩, .int .i64 1, .int .i64 5, .slice (some ⟨g, 0, none⟩) 1 1, .int .i64 2, .int .i64 100] 36; have hg4 := kd3.lt; have hz3 := b3.size; have hx0 := Nat.le_trans lw2.bel.size b3.size; have hp1 := lw_put lw3 ⟨#[1, 97, 0]⟩ 1 5 2 100 5 (.slice (some ⟨g, 0, none⟩) 1 1) awD (by decide) (row_d kd3') (by decide) awS 0 sfE1 [sfE] sfP1)
    | (go_at_call 14; have _t := t2; go_must (refine hp1.mono ?_); rintro e w4 ⟨rfl, mb4, L4, lw4, T4, ft4⟩; have hno : ∀ k, foot gs none [] k → k = gs := (fun k hk => by rcases hk with e | e | ⟨p, hp, _⟩; (· exact e); (· cases e); (· simp at hp)); have kx4 := T4.blk kx3 (fun e => by have := hno _ e; omega); have kd4 := T4.blk kd3' (fun e => by have := hno _ e; omega); have HNX : Hid (¬ foot gs mb4 L4 w3.heap.size) := (fun e => by rcases ft4 _ e with e | e; (· have := hno _ e; omega); (· simp at e; omega)); have lw5 := (lw4.own (Turn.of_set (S := fun k => k = w3.heap.size) w4 (p := ⟨w3.heap.size, 4, none⟩) rfl (.int .i64 (1 - (1 + e)))) hx0 HNX.out); have kd5 := ((Turn.of_set (S := fun k => k = w3.heap.size) w4 (p := ⟨w3.heap.size, 4, none⟩) rfl (.int .i64 (1 - (1 + e)))).blk kd4 (by omega)); have kx5 := (kx4.set 4 (.int .i64 (1 - (1 + e)))); have x0 := kx4.cell 0; have x1 := kx4.cell 1; have x2 := kx4.cell 2; have x3 := kx4.cell 3; have x4 := kx4.cell 4; have x5 := kx4.cell 5; have f4 := kx4.frozen 4; simp only [List.getElem?_toArray, List.getElem?_cons_succ, List.getElem?_cons_zero] at x0 x1 x2 x3 x4 x5; have hp2 := lw_put lw5 ⟨#[1, 97, 0]⟩ 1 5 (1 - (1 + e)) 100 5 (.slice (some ⟨g, 0, none⟩) 1 1) awD (by decide) (row_d kd5) (by decide) awS 1300 (HNO.out []).1 [sfE] (HNO.out _).2; clear t2 hp1 lw3 lw2 kd3 kd3' kx3 b3' kd4 lw4)
    | (go_at_call 14; go_must (refine hp2.mono ?_); rintro e w6 ⟨rfl, mb6, L6, lw6, _, _⟩; clear hp2)
    | (go_at_call 9; have _t := t3; go_must (refine (new_no (1 - (1 + e)) _ (by omega)).mono ?_); rintro e w' ⟨rfl, hw⟩; obtain rfl := hw.symm; clear t3)
    | (go_at_call 9; go_must (refine (new_no (256 + (1 + e)) _ (by omega)).mono ?_); rintro e w' ⟨rfl, hw⟩; obtain rfl := hw.symm)
    | (go_at_call 22; go_must (refine (lw6.all 1 rfl).mono ?_); rintro e w7 ⟨y7, c7, M7, rfl, es7, hf7, hl7, lw7, _⟩; obtain ⟨g7, rfl, hc7⟩ := es_until es7 (by rw [hf7]; rfl); clear es7 hf7 hl7))
  go_ret
  exact ⟨rfl, lw7.bel⟩

set_option maxRecDepth 20000 in
set_option maxHeartbeats 4000000 in
theorem sf5 (which x U e : Int) (w : World) (hU : IntKind.u64.wrap which = U) (hm : U.tmod 9 = 5) (m63 : bits .and .i64 x 63 = e) (e0 : 0 ≤ e) (e1 : e < 64) :
    Calls Try.prog 6 #[.int .i64 which, .int .i64 x] w fun e w' => e = .returned (.bool true) ∧ Below w.heap.size w w' := by
  have HB : Hid (Below w.heap.size w w) := Below.refl _ _
  have HNO : Hid (∀ F, errP ⟨⟨#[1, 97, 0]⟩, 1, 5, awD, (3 + (1 + e)), 100⟩ 5 = 1300 ∧ putP 3 F ⟨⟨#[1, 97, 0]⟩, 1, 5, awD, (3 + (1 + e)), 100⟩ 5 = F) := fun F => no_put (may_not (.inr (.inr (.inr (.inr (.inr (.inl (by show 3 < 3 + (1 + e); omega))))))))
  have t1 : True := trivial
  have t2 : True := trivial
  have t3 : True := trivial
  go_enter Try.func6, Try.ntmps6
  go_wp2_with (first
    | (go_at_call 11; refine (num_any _ _).mono ?_; rintro e w' ⟨rfl, hw⟩; obtain rfl := hw.symm)
    | (go_at_call 12; go_must (refine (awake_any _).mono ?_); rintro e w1 ⟨rfl, b1⟩)
    | (go_at_call 9; have _t := t1; go_must (refine (lw_new b1 3 (by decide) (by decide)).mono ?_); rintro e w2 ⟨gs, rfl, lw2⟩; clear t1)
    | (go_at_call 25; go_must (refine (set_any _ _ _ _).mono ?_); rintro e w3 ⟨g, rfl, kd3, hg3, b3⟩; have b3' := lay b3 (.cells #[.string ⟨#[1, 97, 0]⟩, .int .i64 1, .int .i64 5, .slice (some ⟨g, 0, none⟩) 1 1, .int .i64 2, .int .i64 100] 36); have lw3 := lw2.below b3'; have hgs := lw2.st.blk.lt; have kd3' := kd3.alloc (.cells #[.string ⟨#[1, 97, 0]⟩, .int .i64 1, .int .i64 5, .slice (some ⟨g, 0, none⟩) 1 1, .int .i64 2, .int .i64 100] 36); have kx3 := Blk.new w3 #[.string ⟨#[1, 97, 0]⟩, .int .i64 1, .int .i64 5, .slice (some ⟨g, 0, none⟩) 1 1, .int .i64 2, .int .i64 100] 36; have hg4 := kd3.lt; have hz3 := b3.size; have hx0 := Nat.le_trans lw2.bel.size b3.size; have hp1 := lw_put lw3 ⟨#[1, 97, 0]⟩ 1 5 2 100 5 (.slice (some ⟨g, 0, none⟩) 1 1) awD (by decide) (row_d kd3') (by decide) awS 0 sfE1 [sfE] sfP1)
    | (go_at_call 14; have _t := t2; go_must (refine hp1.mono ?_); rintro e w4 ⟨rfl, mb4, L4, lw4, T4, ft4⟩; have hno : ∀ k, foot gs none [] k → k = gs := (fun k hk => by rcases hk with e | e | ⟨p, hp, _⟩; (· exact e); (· cases e); (· simp at hp)); have kx4 := T4.blk kx3 (fun e => by have := hno _ e; omega); have kd4 := T4.blk kd3' (fun e => by have := hno _ e; omega); have HNX : Hid (¬ foot gs mb4 L4 w3.heap.size) := (fun e => by rcases ft4 _ e with e | e; (· have := hno _ e; omega); (· simp at e; omega)); have lw5 := (lw4.own (Turn.of_set (S := fun k => k = w3.heap.size) w4 (p := ⟨w3.heap.size, 4, none⟩) rfl (.int .i64 (3 + (1 + e)))) hx0 HNX.out); have kd5 := ((Turn.of_set (S := fun k => k = w3.heap.size) w4 (p := ⟨w3.heap.size, 4, none⟩) rfl (.int .i64 (3 + (1 + e)))).blk kd4 (by omega)); have kx5 := (kx4.set 4 (.int .i64 (3 + (1 + e)))); have x0 := kx4.cell 0; have x1 := kx4.cell 1; have x2 := kx4.cell 2; have x3 := kx4.cell 3; have x4 := kx4.cell 4; have x5 := kx4.cell 5; have f4 := kx4.frozen 4; simp only [List.getElem?_toArray, List.getElem?_cons_succ, List.getElem?_cons_zero] at x0 x1 x2 x3 x4 x5; have hp2 := lw_put lw5 ⟨#[1, 97, 0]⟩ 1 5 (3 + (1 + e)) 100 5 (.slice (some ⟨g, 0, none⟩) 1 1) awD (by decide) (row_d kd5) (by decide) awS 1300 (HNO.out []).1 [sfE] (HNO.out _).2; clear t2 hp1 lw3 lw2 kd3 kd3' kx3 b3' kd4 lw4)
    | (go_at_call 14; go_must (refine hp2.mono ?_); rintro e w6 ⟨rfl, mb6, L6, lw6, _, _⟩; clear hp2)
    | (go_at_call 9; have _t := t3; go_must (refine (new_no (1 - (1 + e)) _ (by omega)).mono ?_); rintro e w' ⟨rfl, hw⟩; obtain rfl := hw.symm; clear t3)
    | (go_at_call 9; go_must (refine (new_no (256 + (1 + e)) _ (by omega)).mono ?_); rintro e w' ⟨rfl, hw⟩; obtain rfl := hw.symm)
    | (go_at_call 22; go_must (refine (lw6.all 1 rfl).mono ?_); rintro e w7 ⟨y7, c7, M7, rfl, es7, hf7, hl7, lw7, _⟩; obtain ⟨g7, rfl, hc7⟩ := es_until es7 (by rw [hf7]; rfl); clear es7 hf7 hl7))
  go_ret
  exact ⟨rfl, lw7.bel⟩

set_option maxRecDepth 20000 in
set_option maxHeartbeats 4000000 in
theorem sf6 (which x U e : Int) (w : World) (hU : IntKind.u64.wrap which = U) (hm : U.tmod 9 = 6) (m63 : bits .and .i64 x 63 = e) (e0 : 0 ≤ e) (e1 : e < 64) :
    Calls Try.prog 6 #[.int .i64 which, .int .i64 x] w fun e w' => e = .returned (.bool true) ∧ Below w.heap.size w w' := by
  have HB : Hid (Below w.heap.size w w) := Below.refl _ _
  have HNO : Hid (∀ F, errP ⟨⟨#[1, 97, 0]⟩, 1, 5, awD, 2, (6 - (1 + e))⟩ 5 = 1300 ∧ putP 3 F ⟨⟨#[1, 97, 0]⟩, 1, 5, awD, 2, (6 - (1 + e))⟩ 5 = F) := fun F => no_put (may_not (.inr (.inr (.inr (.inr (.inr (.inr (.inl (by show 6 - (1 + e) ≤ 5; omega)))))))))
  have t1 : True := trivial
  have t2 : True := trivial
  have t3 : True := trivial
  go_enter Try.func6, Try.ntmps6
  go_wp2_with (first
    | (go_at_call 11; refine (num_any _ _).mono ?_; rintro e w' ⟨rfl, hw⟩; obtain rfl := hw.symm)
    | (go_at_call 12; go_must (refine (awake_any _).mono ?_); rintro e w1 ⟨rfl, b1⟩)
    | (go_at_call 9; have _t := t1; go_must (refine (lw_new b1 3 (by decide) (by decide)).mono ?_); rintro e w2 ⟨gs, rfl, lw2⟩; clear t1)
    | (go_at_call 25; go_must (refine (set_any _ _ _ _).mono ?_); rintro e w3 ⟨g, rfl, kd3, hg3, b3⟩; have b3' := lay b3 (.cells #[.string ⟨#[1, 97, 0]⟩, .int .i64 1, .int .i64 5, .slice (some ⟨g, 0, none⟩) 1 1, .int .i64 2, .int .i64 100] 36); have lw3 := lw2.below b3'; have hgs := lw2.st.blk.lt; have kd3' := kd3.alloc (.cells #[.string ⟨#[1, 97, 0]⟩, .int .i64 1, .int .i64 5, .slice (some ⟨g, 0, none⟩) 1 1, .int .i64 2, .int .i64 100] 36); have kx3 := Blk.new w3 #[.string ⟨#[1, 97, 0]⟩, .int .i64 1, .int .i64 5, .slice (some ⟨g, 0, none⟩) 1 1, .int .i64 2, .int .i64 100] 36; have hg4 := kd3.lt; have hz3 := b3.size; have hx0 := Nat.le_trans lw2.bel.size b3.size; have hp1 := lw_put lw3 ⟨#[1, 97, 0]⟩ 1 5 2 100 5 (.slice (some ⟨g, 0, none⟩) 1 1) awD (by decide) (row_d kd3') (by decide) awS 0 sfE1 [sfE] sfP1)
    | (go_at_call 14; have _t := t2; go_must (refine hp1.mono ?_); rintro e w4 ⟨rfl, mb4, L4, lw4, T4, ft4⟩; have hno : ∀ k, foot gs none [] k → k = gs := (fun k hk => by rcases hk with e | e | ⟨p, hp, _⟩; (· exact e); (· cases e); (· simp at hp)); have kx4 := T4.blk kx3 (fun e => by have := hno _ e; omega); have kd4 := T4.blk kd3' (fun e => by have := hno _ e; omega); have HNX : Hid (¬ foot gs mb4 L4 w3.heap.size) := (fun e => by rcases ft4 _ e with e | e; (· have := hno _ e; omega); (· simp at e; omega)); have lw5 := (lw4.own (Turn.of_set (S := fun k => k = w3.heap.size) w4 (p := ⟨w3.heap.size, 5, none⟩) rfl (.int .i64 (6 - (1 + e)))) hx0 HNX.out); have kd5 := ((Turn.of_set (S := fun k => k = w3.heap.size) w4 (p := ⟨w3.heap.size, 5, none⟩) rfl (.int .i64 (6 - (1 + e)))).blk kd4 (by omega)); have kx5 := (kx4.set 5 (.int .i64 (6 - (1 + e)))); have x0 := kx4.cell 0; have x1 := kx4.cell 1; have x2 := kx4.cell 2; have x3 := kx4.cell 3; have x4 := kx4.cell 4; have x5 := kx4.cell 5; have f5 := kx4.frozen 5; simp only [List.getElem?_toArray, List.getElem?_cons_succ, List.getElem?_cons_zero] at x0 x1 x2 x3 x4 x5; have hp2 := lw_put lw5 ⟨#[1, 97, 0]⟩ 1 5 2 (6 - (1 + e)) 5 (.slice (some ⟨g, 0, none⟩) 1 1) awD (by decide) (row_d kd5) (by decide) awS 1300 (HNO.out []).1 [sfE] (HNO.out _).2; clear t2 hp1 lw3 lw2 kd3 kd3' kx3 b3' kd4 lw4)
    | (go_at_call 14; go_must (refine hp2.mono ?_); rintro e w6 ⟨rfl, mb6, L6, lw6, _, _⟩; clear hp2)
    | (go_at_call 9; have _t := t3; go_must (refine (new_no (1 - (1 + e)) _ (by omega)).mono ?_); rintro e w' ⟨rfl, hw⟩; obtain rfl := hw.symm; clear t3)
    | (go_at_call 9; go_must (refine (new_no (256 + (1 + e)) _ (by omega)).mono ?_); rintro e w' ⟨rfl, hw⟩; obtain rfl := hw.symm)
    | (go_at_call 22; go_must (refine (lw6.all 1 rfl).mono ?_); rintro e w7 ⟨y7, c7, M7, rfl, es7, hf7, hl7, lw7, _⟩; obtain ⟨g7, rfl, hc7⟩ := es_until es7 (by rw [hf7]; rfl); clear es7 hf7 hl7))
  go_ret
  exact ⟨rfl, lw7.bel⟩

set_option maxRecDepth 20000 in
set_option maxHeartbeats 4000000 in
theorem sf7 (which x U e : Int) (w : World) (hU : IntKind.u64.wrap which = U) (hm : U.tmod 9 = 7) (m63 : bits .and .i64 x 63 = e) (e0 : 0 ≤ e) (e1 : e < 64) :
    Calls Try.prog 6 #[.int .i64 which, .int .i64 x] w fun e w' => e = .returned (.bool true) ∧ Below w.heap.size w w' := by
  have HB : Hid (Below w.heap.size w w) := Below.refl _ _
  have HNO : Hid (∀ F, errP ⟨⟨#[1, 97, 0]⟩, 1, 5, awD, 2, 100⟩ (-(1 + e)) = 1300 ∧ putP 3 F ⟨⟨#[1, 97, 0]⟩, 1, 5, awD, 2, 100⟩ (-(1 + e)) = F) := fun F => no_put (may_not (.inr (.inr (.inr (.inr (.inr (.inr (.inr (.inl (by omega))))))))))
  have t1 : True := trivial
  have t2 : True := trivial
  have t3 : True := trivial
  go_enter Try.func6, Try.ntmps6
  go_wp2_with (first
    | (go_at_call 11; refine (num_any _ _).mono ?_; rintro e w' ⟨rfl, hw⟩; obtain rfl := hw.symm)
    | (go_at_call 12; go_must (refine (awake_any _).mono ?_); rintro e w1 ⟨rfl, b1⟩)
    | (go_at_call 9; have _t := t1; go_must (refine (lw_new b1 3 (by decide) (by decide)).mono ?_); rintro e w2 ⟨gs, rfl, lw2⟩; clear t1)
    | (go_at_call 25; go_must (refine (set_any _ _ _ _).mono ?_); rintro e w3 ⟨g, rfl, kd3, hg3, b3⟩; have b3' := lay b3 (.cells #[.string ⟨#[1, 97, 0]⟩, .int .i64 1, .int .i64 5, .slice (some ⟨g, 0, none⟩) 1 1, .int .i64 2, .int .i64 100] 36); have lw3 := lw2.below b3'; have hgs := lw2.st.blk.lt; have kd3' := kd3.alloc (.cells #[.string ⟨#[1, 97, 0]⟩, .int .i64 1, .int .i64 5, .slice (some ⟨g, 0, none⟩) 1 1, .int .i64 2, .int .i64 100] 36); have kx3 := Blk.new w3 #[.string ⟨#[1, 97, 0]⟩, .int .i64 1, .int .i64 5, .slice (some ⟨g, 0, none⟩) 1 1, .int .i64 2, .int .i64 100] 36; have hg4 := kd3.lt; have hz3 := b3.size; have hx0 := Nat.le_trans lw2.bel.size b3.size; have hp1 := lw_put lw3 ⟨#[1, 97, 0]⟩ 1 5 2 100 5 (.slice (some ⟨g, 0, none⟩) 1 1) awD (by decide) (row_d kd3') (by decide) awS 0 sfE1 [sfE] sfP1)
    | (go_at_call 14; have _t := t2; go_must (refine hp1.mono ?_); rintro e w4 ⟨rfl, mb4, L4, lw4, T4, ft4⟩; have hno : ∀ k, foot gs none [] k → k = gs := (fun k hk => by rcases hk with e | e | ⟨p, hp, _⟩; (· exact e); (· cases e); (· simp at hp)); have kx4 := T4.blk kx3 (fun e => by have := hno _ e; omega); have kd4 := T4.blk kd3' (fun e => by have := hno _ e; omega); have HNX : Hid (¬ foot gs mb4 L4 w3.heap.size) := (fun e => by rcases ft4 _ e with e | e; (· have := hno _ e; omega); (· simp at e; omega)); have lw5 := lw4; have kd5 := kd4; have kx5 := kx4; have x0 := kx4.cell 0; have x1 := kx4.cell 1; have x2 := kx4.cell 2; have x3 := kx4.cell 3; have x4 := kx4.cell 4; have x5 := kx4.cell 5; simp only [List.getElem?_toArray, List.getElem?_cons_succ, List.getElem?_cons_zero] at x0 x1 x2 x3 x4 x5; have hp2 := lw_put lw5 ⟨#[1, 97, 0]⟩ 1 5 2 100 (-(1 + e)) (.slice (some ⟨g, 0, none⟩) 1 1) awD (by decide) (row_d kd5) (by decide) awS 1300 (HNO.out []).1 [sfE] (HNO.out _).2; clear t2 hp1 lw3 lw2 kd3 kd3' kx3 b3' kd4 lw4)
    | (go_at_call 14; go_must (refine hp2.mono ?_); rintro e w6 ⟨rfl, mb6, L6, lw6, _, _⟩; clear hp2)
    | (go_at_call 9; have _t := t3; go_must (refine (new_no (1 - (1 + e)) _ (by omega)).mono ?_); rintro e w' ⟨rfl, hw⟩; obtain rfl := hw.symm; clear t3)
    | (go_at_call 9; go_must (refine (new_no (256 + (1 + e)) _ (by omega)).mono ?_); rintro e w' ⟨rfl, hw⟩; obtain rfl := hw.symm)
    | (go_at_call 22; go_must (refine (lw6.all 1 rfl).mono ?_); rintro e w7 ⟨y7, c7, M7, rfl, es7, hf7, hl7, lw7, _⟩; obtain ⟨g7, rfl, hc7⟩ := es_until es7 (by rw [hf7]; rfl); clear es7 hf7 hl7))
  go_ret
  exact ⟨rfl, lw7.bel⟩

set_option maxRecDepth 20000 in
set_option maxHeartbeats 4000000 in
theorem sf8 (which x U e : Int) (w : World) (hU : IntKind.u64.wrap which = U) (hm : U.tmod 9 = 8) (m63 : bits .and .i64 x 63 = e) (e0 : 0 ≤ e) (e1 : e < 64) :
    Calls Try.prog 6 #[.int .i64 which, .int .i64 x] w fun e w' => e = .returned (.bool true) ∧ Below w.heap.size w w' := by
  have HB : Hid (Below w.heap.size w w) := Below.refl _ _
  have HNO : Hid (∀ F, errP ⟨⟨#[1, 97, 0]⟩, 1, 5, awD, 2, (1099511627776 + (1 + e) + 5)⟩ (1099511627776 + (1 + e)) = 1300 ∧ putP 3 F ⟨⟨#[1, 97, 0]⟩, 1, 5, awD, 2, (1099511627776 + (1 + e) + 5)⟩ (1099511627776 + (1 + e)) = F) := fun F => no_put (may_not (.inr (.inr (.inr (.inr (.inr (.inr (.inr (.inr (by omega))))))))))
  have t1 : True := trivial
  have t2 : True := trivial
  have t3 : True := trivial
  go_enter Try.func6, Try.ntmps6
  go_wp2_with (first
    | (go_at_call 11; refine (num_any _ _).mono ?_; rintro e w' ⟨rfl, hw⟩; obtain rfl := hw.symm)
    | (go_at_call 12; go_must (refine (awake_any _).mono ?_); rintro e w1 ⟨rfl, b1⟩)
    | (go_at_call 9; have _t := t1; go_must (refine (lw_new b1 3 (by decide) (by decide)).mono ?_); rintro e w2 ⟨gs, rfl, lw2⟩; clear t1)
    | (go_at_call 25; go_must (refine (set_any _ _ _ _).mono ?_); rintro e w3 ⟨g, rfl, kd3, hg3, b3⟩; have b3' := lay b3 (.cells #[.string ⟨#[1, 97, 0]⟩, .int .i64 1, .int .i64 5, .slice (some ⟨g, 0, none⟩) 1 1, .int .i64 2, .int .i64 100] 36); have lw3 := lw2.below b3'; have hgs := lw2.st.blk.lt; have kd3' := kd3.alloc (.cells #[.string ⟨#[1, 97, 0]⟩, .int .i64 1, .int .i64 5, .slice (some ⟨g, 0, none⟩) 1 1, .int .i64 2, .int .i64 100] 36); have kx3 := Blk.new w3 #[.string ⟨#[1, 97, 0]⟩, .int .i64 1, .int .i64 5, .slice (some ⟨g, 0, none⟩) 1 1, .int .i64 2, .int .i64 100] 36; have hg4 := kd3.lt; have hz3 := b3.size; have hx0 := Nat.le_trans lw2.bel.size b3.size; have hp1 := lw_put lw3 ⟨#[1, 97, 0]⟩ 1 5 2 100 5 (.slice (some ⟨g, 0, none⟩) 1 1) awD (by decide) (row_d kd3') (by decide) awS 0 sfE1 [sfE] sfP1)
    | (go_at_call 14; have _t := t2; go_must (refine hp1.mono ?_); rintro e w4 ⟨rfl, mb4, L4, lw4, T4, ft4⟩; have hno : ∀ k, foot gs none [] k → k = gs := (fun k hk => by rcases hk with e | e | ⟨p, hp, _⟩; (· exact e); (· cases e); (· simp at hp)); have kx4 := T4.blk kx3 (fun e => by have := hno _ e; omega); have kd4 := T4.blk kd3' (fun e => by have := hno _ e; omega); have HNX : Hid (¬ foot gs mb4 L4 w3.heap.size) := (fun e => by rcases ft4 _ e with e | e; (· have := hno _ e; omega); (· simp at e; omega)); have lw5 := (lw4.own (Turn.of_set (S := fun k => k = w3.heap.size) w4 (p := ⟨w3.heap.size, 5, none⟩) rfl (.int .i64 (1099511627776 + (1 + e) + 5))) hx0 HNX.out); have kd5 := ((Turn.of_set (S := fun k => k = w3.heap.size) w4 (p := ⟨w3.heap.size, 5, none⟩) rfl (.int .i64 (1099511627776 + (1 + e) + 5))).blk kd4 (by omega)); have kx5 := (kx4.set 5 (.int .i64 (1099511627776 + (1 + e) + 5))); have x0 := kx4.cell 0; have x1 := kx4.cell 1; have x2 := kx4.cell 2; have x3 := kx4.cell 3; have x4 := kx4.cell 4; have x5 := kx4.cell 5; have f5 := kx4.frozen 5; simp only [List.getElem?_toArray, List.getElem?_cons_succ, List.getElem?_cons_zero] at x0 x1 x2 x3 x4 x5; have hp2 := lw_put lw5 ⟨#[1, 97, 0]⟩ 1 5 2 (1099511627776 + (1 + e) + 5) (1099511627776 + (1 + e)) (.slice (some ⟨g, 0, none⟩) 1 1) awD (by decide) (row_d kd5) (by decide) awS 1300 (HNO.out []).1 [sfE] (HNO.out _).2; clear t2 hp1 lw3 lw2 kd3 kd3' kx3 b3' kd4 lw4)
    | (go_at_call 14; go_must (refine hp2.mono ?_); rintro e w6 ⟨rfl, mb6, L6, lw6, _, _⟩; clear hp2)
    | (go_at_call 9; have _t := t3; go_must (refine (new_no (1 - (1 + e)) _ (by omega)).mono ?_); rintro e w' ⟨rfl, hw⟩; obtain rfl := hw.symm; clear t3)
    | (go_at_call 9; go_must (refine (new_no (256 + (1 + e)) _ (by omega)).mono ?_); rintro e w' ⟨rfl, hw⟩; obtain rfl := hw.symm)
    | (go_at_call 22; go_must (refine (lw6.all 1 rfl).mono ?_); rintro e w7 ⟨y7, c7, M7, rfl, es7, hf7, hl7, lw7, _⟩; obtain ⟨g7, rfl, hc7⟩ := es_until es7 (by rw [hf7]; rfl); clear es7 hf7 hl7))
  go_ret
  exact ⟨rfl, lw7.bel⟩

end Go.Proofs.Ytcmhjlflgedcdaa
