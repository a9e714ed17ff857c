/- Rows of hints and of bindings: copied, lent, alike, kept, written over. -/
import Derived.Test.YtnjgdfmldjgloaaGreatXCtB
import Derived.Test.YtnjgdfmldjgloaaGreatXP3
import Derived.Laws.StructEq
namespace Go.Proofs.YtnjgdfmldjgloaaGreat
open Go.RowKit
open Pl
namespace Cu

theorem own_take {w : World} {base e z n k g cap : Nat} {xs : List Value} (h : w.ownsRow base e z (.slice (some ⟨g, 0, none⟩) n cap) n xs) (hk : k ≤ n) : w.ownsRow base e z (.slice (some ⟨g, 0, none⟩) k cap) k (xs.take (k * z)) := by
  have hl := h.1
  have hz : k * z ≤ n * z := Nat.mul_le_mul_right z hk
  refine ⟨by rw [List.length_take]; omega, ?_⟩
  rcases h.2 with ⟨h1, _⟩ | ⟨g', cap', cur, h1, hb, hg, hnc, hcm, hcs, hx⟩
  · cases h1
  · simp only [Value.slice.injEq, true_and, Option.some.injEq, Addr.mk.injEq] at h1
    obtain ⟨⟨rfl, _⟩, rfl⟩ := h1
    exact .inr ⟨g, cap, cur, rfl, hb, hg, by omega, hcm, hcs, by rw [← hx, List.take_take, Nat.min_eq_left hz]⟩
theorem lendT_own (v : Value) (ds : List ByteArray) (w : World) (h : Row w v ds.length (tC ds)) (hn : ds.length ≤ 8796093022000) :
    Calls Tryz.prog 11 #[v] w fun e w' => ∃ g cap, e = .returned (.slice (some ⟨g, 0, none⟩) ds.length cap) ∧ ds.length + 2 ≤ cap ∧ Lies w' g (tC ds ++ tC mkT) ∧ w'.ownsRow w.heap.size 9 1 (.slice (some ⟨g, 0, none⟩) ds.length cap) ds.length (tC ds) ∧ Below w.heap.size w w' := by
  obtain ⟨i0, hi, hz0, hz1, hz2⟩ := info_parts info9'
  obtain ⟨N, hN⟩ : ∃ N, N = ds.length := ⟨_, rfl⟩
  have HN : Hid (N = ds.length) := hN
  obtain ⟨x, c, hv⟩ := row_slice h
  have hc := copyT_any v ds w h hn
  rw [← hN] at hv hn ⊢
  subst hv
  clear hN
  go_enter Tryz.func11, Tryz.ntmps11
  go_wp2_with (first
    | (go_at_call 39; go_must (refine hc.mono ?_); rintro e w1 ⟨v1, rfl, hown, hb⟩; rw [← HN.out] at hown)
    | (at_builtin; refine wpList_appG _ rfl (.tmp 5) (.tmp 6) 36 9 i0 _ 1 16 Tryz.underlying36 hi hz0 hz1 hz2 rfl (by decide) rfl w.heap.size _ N (tC ds) rfl (hown.alloc _) (.slice (some ⟨w1.heap.size, 0, none⟩) 2 2) 2 (tC mkT) rfl (Row.of_blk (Blk.new w1 #[.string ⟨#[126, 114, 111, 111, 109]⟩, .string ⟨#[126, 98, 101, 104, 105, 110, 100]⟩] 9) rfl 2 2) rfl (tC_one _) (by omega) (by unfold maxLen; omega) (lay hb _).size ?_; intro v2 w2 h1 h3 _; obtain ⟨g, cap, rfl, _, _⟩ := h1.form (by omega); obtain ⟨hl, hcap⟩ := lies_own h1; have hcap2 : N ≤ cap := (by omega); have HOT := own_take (k := N) h1 (by omega); have hb2 : Below w.heap.size w w2 := (lay hb _).grown h3 (lay hb _).size (fun j e => (hown.lt j e).1); clear h1 h3))
  go_ret
  refine ⟨g, cap, rfl, hcap, hl, ?_, hb2⟩
  rw [Nat.mul_one, List.take_append_of_le_length (by rw [tC_len, ← HN.out]; exact Nat.le_refl _), List.take_of_length_le (by rw [tC_len, ← HN.out]; exact Nat.le_refl _)] at HOT
  exact HOT

theorem infoHn : (Tryz.prog.info? 56).map (fun i => (i.zero, i.size, i.bytes)) = some (some (.agg #[.string ⟨#[]⟩, .int .i64 0]), 2, 24) := by kernel_rfl
theorem atHn {xs : List Hn} {k : Nat} (hk : k < xs.length) (i : Nat) (hi : i < 2) : (hnC xs)[k * 2 + i]? = (hnV xs[k])[i]? := flat_get (f := hnV) (z := 2) (fun _ => rfl) xs k hk i hi
theorem lenHn (xs : List Hn) : (hnC xs).length = xs.length * 2 := flat_len (f := hnV) (z := 2) (fun _ => rfl) xs
theorem oneHn (xs : List Hn) : ∀ u ∈ hnC xs, u.oneCell' = true := by
  intro u hu
  unfold hnC at hu
  obtain ⟨p, _, hu⟩ := List.mem_flatMap.1 hu
  unfold hnV at hu
  simp at hu
  rcases hu with rfl | rfl <;> rfl
def mkHn : List Hn := [⟨⟨#[]⟩, 77777⟩, ⟨⟨#[]⟩, 77777⟩]
theorem copyHn_any (v : Value) (xs : List Hn) (w : World) (h : Row w v xs.length (hnC xs)) (hn : xs.length ≤ 5864062014640) :
    Calls Tryz.prog 29 #[v] w fun e w' => ∃ v', e = .returned v' ∧ w'.ownsRow w.heap.size 56 2 v' xs.length (hnC xs) ∧ Below w.heap.size w w' := by
  obtain ⟨i0, hi, hz0, hz1, hz2⟩ := info_parts infoHn
  have hb := lay (Below.refl w.heap.size w) (.cells #[] 56)
  have h2 := h.below hb
  have hown := own_blk (B := w.heap.size) (z := 2) (n := 0) (xs := []) (Blk.new w #[] 56) (Nat.le_refl _) rfl rfl (Nat.zero_le _)
  obtain ⟨x, c, rfl⟩ := row_slice h
  go_enter Tryz.func29, Tryz.ntmps29
  go_wp2_with (at_builtin; refine wpList_appG _ rfl (.tmp 3) (.tmp 4) 22 56 i0 _ 2 24 Tryz.underlying22 hi hz0 hz1 hz2 rfl (by decide) rfl w.heap.size _ 0 [] rfl hown _ xs.length (hnC xs) rfl h2 (lenHn xs) (oneHn xs) (by omega) (by unfold maxLen; omega) hb.size ?_; intro v' w2 h1 h3 _)
  go_ret
  exact ⟨_, rfl, by simpa using h1, hb.grown h3 hb.size (fun j e => (hown.lt j e).1)⟩
theorem lendHn_any (v : Value) (xs : List Hn) (w : World) (h : Row w v xs.length (hnC xs)) (hn : xs.length ≤ 5864062014640) :
    Calls Tryz.prog 4 #[v] w fun e w' => ∃ g cap, e = .returned (.slice (some ⟨g, 0, none⟩) xs.length cap) ∧ xs.length + 2 ≤ cap ∧ Lies w' g (hnC xs ++ hnC mkHn) ∧ w'.ownsRow w.heap.size 56 2 (.slice (some ⟨g, 0, none⟩) xs.length cap) xs.length (hnC xs) ∧ Below w.heap.size w w' := by
  obtain ⟨i0, hi, hz0, hz1, hz2⟩ := info_parts infoHn
  obtain ⟨N, hN⟩ : ∃ N, N = xs.length := ⟨_, rfl⟩
  have HN : Hid (N = xs.length) := hN
  obtain ⟨x, c, hv⟩ := row_slice h
  have hc := copyHn_any v xs w h hn
  rw [← hN] at hv hn ⊢
  subst hv
  clear hN
  go_enter Tryz.func4, Tryz.ntmps4
  go_wp2_with (first
    | (go_at_call 29; go_must (refine hc.mono ?_); rintro e w1 ⟨v1, rfl, hown, hb⟩; rw [← HN.out] at hown)
    | (at_builtin; refine wpList_appG _ rfl (.tmp 5) (.tmp 8) 22 56 i0 _ 2 24 Tryz.underlying22 hi hz0 hz1 hz2 rfl (by decide) rfl w.heap.size _ N (hnC xs) rfl (hown.alloc _) (.slice (some ⟨w1.heap.size, 0, none⟩) 2 2) 2 (hnC mkHn) rfl (Row.of_blk (Blk.new w1 #[.string ⟨#[]⟩, .int .i64 77777, .string ⟨#[]⟩, .int .i64 77777] 56) rfl 2 2) rfl (oneHn _) (by omega) (by unfold maxLen; omega) (lay hb _).size ?_; intro v2 w2 h1 h3 _; obtain ⟨g, cap, rfl, _, _⟩ := h1.form (by omega); obtain ⟨hl, hcap⟩ := lies_own h1; have hcap2 : N ≤ cap := (by omega); have HOT := own_take (k := N) h1 (by omega); have hb2 : Below w.heap.size w w2 := (lay hb _).grown h3 (lay hb _).size (fun j e => (hown.lt j e).1); clear h1 h3))
  go_ret
  refine ⟨g, cap, rfl, hcap, hl, ?_, hb2⟩
  rw [List.take_append_of_le_length (by rw [lenHn, ← HN.out]; exact Nat.le_refl _), List.take_of_length_le (by rw [lenHn, ← HN.out]; exact Nat.le_refl _)] at HOT
  exact HOT
theorem sameHn_neq (h : ByteArray) (a : Int) (U : World) : (binOp .neq 56 (.agg #[.string h, .int .i64 a]) (.agg #[.string h, .int .i64 a])).run Tryz.prog U = .ok (.bool false) U := by
  rw [run_neq_struct (P := Tryz.prog) (w := U) 56 #[.string h, .int .i64 a] #[.string h, .int .i64 a]]
  rw [show (10000 : Nat) = 9999 + 1 from rfl, run_equalIn_struct (P := Tryz.prog) U 9999 56 #[.string h, .int .i64 a] #[.string h, .int .i64 a] (by kernel_rfl) (by kernel_rfl)]
  go_simp
theorem sameHn_eql (h : ByteArray) (a : Int) (U : World) : (binOp .eql 56 (.agg #[.string h, .int .i64 a]) (.agg #[.string h, .int .i64 a])).run Tryz.prog U = .ok (.bool true) U := by
  have h1 := run_eql_struct (P := Tryz.prog) (w := U) 56 #[.string h, .int .i64 a] #[.string h, .int .i64 a]
  rw [h1]
  rw [show (10000 : Nat) = 9999 + 1 from rfl, run_equalIn_struct (P := Tryz.prog) U 9999 56 #[.string h, .int .i64 a] #[.string h, .int .i64 a] (by kernel_rfl) (by kernel_rfl)]
  go_simp
set_option maxRecDepth 20000 in
theorem sameHn_yes (v u : Value) (xs : List Hn) (w : World) (h1 : Row w v xs.length (hnC xs)) (h2 : Row w u xs.length (hnC xs)) (hm : xs.length ≤ maxLen) :
    Calls Tryz.prog 37 #[v, u] w fun e w' => e = .returned (.bool true) ∧ Below w.heap.size w w' := by
  obtain ⟨N, hN⟩ : ∃ N, N = xs.length := ⟨_, rfl⟩
  obtain ⟨x, c, rfl⟩ := row_slice h1
  obtain ⟨x', c', rfl⟩ := row_slice h2
  have HN : Hid (N = xs.length) := hN
  rw [← hN] at h1 h2 hm ⊢
  unfold maxLen at hm
  have HR1 : Hid (Row w (.slice x N c) N (hnC xs)) := h1
  have HR2 : Hid (Row w (.slice x' N c') N (hnC xs)) := h2
  have hne : ((N : Int) != (N : Int)) = false := by simp
  clear h1 h2 hN
  go_enter Tryz.func37, Tryz.ntmps37
  go_wp2
  go_loopw [5] (fun i wr => ∃ k : Nat, k ≤ N ∧ i = .int .i64 (k : Int) ∧ Hid (Below w.heap.size w wr)) (fun i _ => N - (intOf i).toNat)
  case atStart => exact ⟨0, Nat.zero_le _, rfl, Below.refl _ _⟩
  case round =>
    obtain ⟨k, hk, rfl, HB⟩ := hrel
    by_cases hkn : k < N
    · have hkn' : (k : Int) < (N : Int) := by omega
      have hka : k < xs.length := by have := HN.out; omega
      obtain ⟨g, o, cap, hx, hc⟩ := row_at (HR1.out.below HB.out) (by omega)
      obtain ⟨g', o', cap', hx', hc'⟩ := row_at (HR2.out.below HB.out) (by omega)
      simp only [Value.slice.injEq] at hx hx'
      obtain ⟨rfl, -, rfl⟩ := hx
      obtain ⟨rfl, -, rfl⟩ := hx'
      obtain ⟨⟨ph, pa⟩, hp⟩ : ∃ p, p = xs[k] := ⟨_, rfl⟩
      have hfl := fun i hi => atHn hka i hi
      rw [← hp] at hfl
      have d0 := hc (k * 2 + 0) _ (hfl 0 (by omega))
      have d1 := hc (k * 2 + 1) _ (hfl 1 (by omega))
      have e0 := hc' (k * 2 + 0) _ (hfl 0 (by omega))
      have e1 := hc' (k * 2 + 1) _ (hfl 1 (by omega))
      simp only [Nat.add_zero, ← Nat.add_assoc] at d0 d1 e0 e1
      have heq := fun u => sameHn_neq ph pa u
      clear hc hc' hfl hp
      go_wp2
      go_region
      go_wp2
      have HB2 : Hid (Below w.heap.size w wr.drew) := next HB.out (Below.refl _ _).drew
      go_roundw
      case rel => exact ⟨k + 1, by omega, by go_num, HB2⟩
      case measure => simp [intOf]; omega
    · have hkn' : decide (k < N) = false := by simpa using hkn
      go_wp2
      go_ret
      exact ⟨rfl, HB.out⟩
theorem marksHn {w : World} {g : Nat} {xs : List Hn} (h : Lies w g (hnC xs ++ hnC mkHn)) : ∀ i u, (hnC mkHn)[i]? = some u → w.cell? ⟨g, xs.length * 2 + i, none⟩ = some u := fun i u hu => h _ _ (by
  rw [List.getElem?_append_right (by rw [lenHn]; omega), lenHn, Nat.add_sub_cancel_left]
  exact hu)
set_option maxRecDepth 20000 in
theorem keptHn_any (g cap : Nat) (u : Value) (xs : List Hn) (w : World) (hl : Lies w g (hnC xs ++ hnC mkHn)) (hcap : xs.length + 2 ≤ cap) (h2 : Row w u xs.length (hnC xs)) (hn : xs.length ≤ 5864062014640) :
    Calls Tryz.prog 7 #[.slice (some ⟨g, 0, none⟩) xs.length cap, u] w fun e w' => e = .returned (.bool true) ∧ Below w.heap.size w w' := by
  have hsame := sameHn_yes _ u xs w (hl.row (cap := cap) (n := xs.length)) h2 (by unfold maxLen; omega)
  have HM : Hid (Lies w g (hnC xs ++ hnC mkHn)) := hl
  have hmk := fun u => sameHn_eql ⟨#[]⟩ 77777 u
  obtain ⟨y, d, e2⟩ := row_slice h2
  obtain ⟨N, hN⟩ : ∃ N, N = xs.length := ⟨_, rfl⟩
  have HN : Hid (N = xs.length) := hN
  rw [← hN] at hsame e2 hn hcap ⊢
  subst e2
  clear hN h2 hl
  have hcap2 : (N : Int) + 2 ≤ (cap : Int) := by omega
  go_enter Tryz.func7, Tryz.ntmps7
  go_wp2_with (go_at_call 37; go_must (refine hsame.mono ?_); rintro e w1 ⟨rfl, b1⟩; have mm := marksHn (HM.out.below b1); rw [← HN.out] at mm; have m0 := mm 0 _ rfl; have m1 := mm 1 _ rfl; have m2 := mm 2 _ rfl; have m3 := mm 3 _ rfl; have n0 : w1.cell? ⟨g, (N + 1) * 2, none⟩ = some (.string ⟨#[]⟩) := (by have h := m2; rw [show N * 2 + 2 = (N + 1) * 2 + 0 by omega] at h; exact h); have n1 : w1.cell? ⟨g, (N + 1) * 2 + 1, none⟩ = some (.int .i64 77777) := (by have h := m3; rw [show N * 2 + 3 = (N + 1) * 2 + 1 by omega] at h; exact h); simp only [Nat.add_zero] at m0; clear mm m2 m3)
  go_ret
  exact ⟨rfl, b1⟩
/-- From the place j on each one's number is one. -/
def NumsHn (xs : List Value) (j n : Nat) : Prop := ∀ i, j ≤ i → i < n → ∃ q : Int, xs[i * 2 + 1]? = some (.int .i64 q)
theorem NumsHn.set {xs : List Value} {j n : Nat} (h : NumsHn xs j n) (v : Value) : NumsHn (xs.set (j * 2 + 1) v) (j + 1) n := by
  intro i hi hn
  obtain ⟨q, h1⟩ := h i (by omega) hn
  exact ⟨q, by rw [List.getElem?_set_ne (by omega)]; exact h1⟩
theorem numsHn (xs : List Hn) : NumsHn (hnC xs) 0 xs.length := fun i _ hi => ⟨xs[i].a, by rw [atHn hi 1 (by decide)]; rfl⟩
set_option maxRecDepth 20000 in
theorem spoilHn_any {B n cap : Nat} {y : Option Addr} {xs : List Value} {w : World} (hown : w.ownsRow B 56 2 (.slice y n cap) n xs) (hi : NumsHn xs 0 n) (hn : n ≤ 5864062014640) :
    Calls Tryz.prog 10 #[.slice y n cap] w fun e w' => e = .returned (.tuple #[]) ∧ Turn (fun k => (Value.slice y n cap).ownBlock = some k) w w' := by
  have HT : Hid (Turn (fun k => (Value.slice y n cap).ownBlock = some k) w w) := Turn.refl _ _
  by_cases h0 : n = 0
  · subst h0
    clear hown hi
    go_enter Tryz.func10, Tryz.ntmps10
    go_wp2
    go_loopw [2] (fun i wr => i = .int .i64 0 ∧ wr = w) (fun _ _ => 0)
    case atStart => exact ⟨rfl, rfl⟩
    case round =>
      obtain ⟨rfl, rfl⟩ := hrel
      go_wp2
      go_end0
      exact ⟨rfl, HT.out⟩
  · obtain ⟨g, cap', e1, _, _⟩ := hown.form (by omega)
    simp only [Value.slice.injEq, true_and] at e1
    obtain ⟨rfl, rfl⟩ := e1
    have HS : Hid (w.ownsRow B 56 2 (.slice (some ⟨g, 0, none⟩) n cap) n xs ∧ NumsHn xs 0 n ∧ Turn (fun k => (Value.slice (some ⟨g, 0, none⟩) n cap).ownBlock = some k) w w) := ⟨hown, hi, HT.out⟩
    clear hown hi HT
    go_enter Tryz.func10, Tryz.ntmps10
    go_wp2
    go_loopw [2] (fun i wr => ∃ (j : Nat) (xs' : List Value), j ≤ n ∧ i = .int .i64 (j : Int) ∧ Hid (wr.ownsRow B 56 2 (.slice (some ⟨g, 0, none⟩) n cap) n xs' ∧ NumsHn xs' j n ∧ Turn (fun k => (Value.slice (some ⟨g, 0, none⟩) n cap).ownBlock = some k) w wr)) (fun i _ => n - (intOf i).toNat)
    case atStart => exact ⟨0, xs, Nat.zero_le _, rfl, HS⟩
    case round =>
      clear HS
      obtain ⟨j, xs', hj, rfl, HS⟩ := hrel
      by_cases hjn : j < n
      · have hjn' : (j : Int) < (n : Int) := by omega
        obtain ⟨q, ht⟩ := HS.out.2.1 j (Nat.le_refl _) hjn
        have c1 : wr.cell? ⟨g, j * 2 + 1, none⟩ = some (.int .i64 q) := by rw [HS.out.1.cellAt (j * 2 + 1) (by omega)]; exact ht
        have f1 := HS.out.1.frozenAt (j * 2 + 1)
        obtain ⟨Z, hZ⟩ : ∃ Z, bits .xor .i64 q 90 = Z := ⟨_, rfl⟩
        have HST : Hid ((wr.setCell ⟨g, j * 2 + 1, none⟩ (.int .i64 Z)).ownsRow B 56 2 (.slice (some ⟨g, 0, none⟩) n cap) n (xs'.set (j * 2 + 1) (.int .i64 Z)) ∧ NumsHn (xs'.set (j * 2 + 1) (.int .i64 Z)) (j + 1) n ∧ Turn (fun k => (Value.slice (some ⟨g, 0, none⟩) n cap).ownBlock = some k) w (wr.setCell ⟨g, j * 2 + 1, none⟩ (.int .i64 Z))) :=
          ⟨(HS.out.1.stored _ _).1, HS.out.2.1.set _, HS.out.2.2.same (Turn.of_set (S := fun k => (Value.slice (some ⟨g, 0, none⟩) n cap).ownBlock = some k) wr (p := ⟨g, j * 2 + 1, none⟩) rfl _)⟩
        clear ht
        go_wp2
        go_roundw
        case rel => exact ⟨j + 1, _, by omega, by go_num, HST.out⟩
        case measure => simp [intOf]; omega
      · have hjn' : decide (j < n) = false := by simpa using hjn
        go_wp2
        go_end0
        exact ⟨rfl, HS.out.2.2⟩

theorem infoBg : (Tryz.prog.info? 65).map (fun i => (i.zero, i.size, i.bytes)) = some (some (.agg #[.string ⟨#[]⟩, .string ⟨#[]⟩, .int .i64 0, .string ⟨#[]⟩, .int .i64 0]), 5, 64) := by kernel_rfl
theorem atBg {xs : List Bn} {k : Nat} (hk : k < xs.length) (i : Nat) (hi : i < 5) : (bC xs)[k * 5 + i]? = (bV xs[k])[i]? := flat_get (f := bV) (z := 5) (fun _ => rfl) xs k hk i hi
theorem lenBg (xs : List Bn) : (bC xs).length = xs.length * 5 := flat_len (f := bV) (z := 5) (fun _ => rfl) xs
theorem oneBg (xs : List Bn) : ∀ u ∈ bC xs, u.oneCell' = true := by
  intro u hu
  unfold bC at hu
  obtain ⟨p, _, hu⟩ := List.mem_flatMap.1 hu
  unfold bV at hu
  simp at hu
  rcases hu with rfl | rfl | rfl | rfl | rfl <;> rfl
def mkBg : List Bn := [⟨⟨#[]⟩, ⟨#[]⟩, 77777, ⟨#[]⟩, 0⟩, ⟨⟨#[]⟩, ⟨#[]⟩, 77777, ⟨#[]⟩, 0⟩]
theorem copyBg_any (v : Value) (xs : List Bn) (w : World) (h : Row w v xs.length (bC xs)) (hn : xs.length ≤ 2199023255490) :
    Calls Tryz.prog 40 #[v] w fun e w' => ∃ v', e = .returned v' ∧ w'.ownsRow w.heap.size 65 5 v' xs.length (bC xs) ∧ Below w.heap.size w w' := by
  obtain ⟨i0, hi, hz0, hz1, hz2⟩ := info_parts infoBg
  have hb := lay (Below.refl w.heap.size w) (.cells #[] 65)
  have h2 := h.below hb
  have hown := own_blk (B := w.heap.size) (z := 5) (n := 0) (xs := []) (Blk.new w #[] 65) (Nat.le_refl _) rfl rfl (Nat.zero_le _)
  obtain ⟨x, c, rfl⟩ := row_slice h
  go_enter Tryz.func40, Tryz.ntmps40
  go_wp2_with (at_builtin; refine wpList_appG _ rfl (.tmp 3) (.tmp 4) 37 65 i0 _ 5 64 Tryz.underlying37 hi hz0 hz1 hz2 rfl (by decide) rfl w.heap.size _ 0 [] rfl hown _ xs.length (bC xs) rfl h2 (lenBg xs) (oneBg xs) (by omega) (by unfold maxLen; omega) hb.size ?_; intro v' w2 h1 h3 _)
  go_ret
  exact ⟨_, rfl, by simpa using h1, hb.grown h3 hb.size (fun j e => (hown.lt j e).1)⟩
theorem lendBg_any (v : Value) (xs : List Bn) (w : World) (h : Row w v xs.length (bC xs)) (hn : xs.length ≤ 2199023255490) :
    Calls Tryz.prog 12 #[v] w fun e w' => ∃ g cap, e = .returned (.slice (some ⟨g, 0, none⟩) xs.length cap) ∧ xs.length + 2 ≤ cap ∧ Lies w' g (bC xs ++ bC mkBg) ∧ w'.ownsRow w.heap.size 65 5 (.slice (some ⟨g, 0, none⟩) xs.length cap) xs.length (bC xs) ∧ Below w.heap.size w w' := by
  obtain ⟨i0, hi, hz0, hz1, hz2⟩ := info_parts infoBg
  obtain ⟨N, hN⟩ : ∃ N, N = xs.length := ⟨_, rfl⟩
  have HN : Hid (N = xs.length) := hN
  obtain ⟨x, c, hv⟩ := row_slice h
  have hc := copyBg_any v xs w h hn
  rw [← hN] at hv hn ⊢
  subst hv
  clear hN
  go_enter Tryz.func12, Tryz.ntmps12
  go_wp2_with (first
    | (go_at_call 40; go_must (refine hc.mono ?_); rintro e w1 ⟨v1, rfl, hown, hb⟩; rw [← HN.out] at hown)
    | (at_builtin; refine wpList_appG _ rfl (.tmp 5) (.tmp 8) 37 65 i0 _ 5 64 Tryz.underlying37 hi hz0 hz1 hz2 rfl (by decide) rfl w.heap.size _ N (bC xs) rfl (hown.alloc _) (.slice (some ⟨w1.heap.size, 0, none⟩) 2 2) 2 (bC mkBg) rfl (Row.of_blk (Blk.new w1 #[.string ⟨#[]⟩, .string ⟨#[]⟩, .int .i64 77777, .string ⟨#[]⟩, .int .i64 0, .string ⟨#[]⟩, .string ⟨#[]⟩, .int .i64 77777, .string ⟨#[]⟩, .int .i64 0] 65) rfl 2 2) rfl (oneBg _) (by omega) (by unfold maxLen; omega) (lay hb _).size ?_; intro v2 w2 h1 h3 _; obtain ⟨g, cap, rfl, _, _⟩ := h1.form (by omega); obtain ⟨hl, hcap⟩ := lies_own h1; have hcap2 : N ≤ cap := (by omega); have HOT := own_take (k := N) h1 (by omega); have hb2 : Below w.heap.size w w2 := (lay hb _).grown h3 (lay hb _).size (fun j e => (hown.lt j e).1); clear h1 h3))
  go_ret
  refine ⟨g, cap, rfl, hcap, hl, ?_, hb2⟩
  rw [List.take_append_of_le_length (by rw [lenBg, ← HN.out]; exact Nat.le_refl _), List.take_of_length_le (by rw [lenBg, ← HN.out]; exact Nat.le_refl _)] at HOT
  exact HOT
theorem sameBg_neq (c h f : ByteArray) (a u : Int) (U : World) : (binOp .neq 65 (.agg #[.string c, .string h, .int .i64 a, .string f, .int .i64 u]) (.agg #[.string c, .string h, .int .i64 a, .string f, .int .i64 u])).run Tryz.prog U = .ok (.bool false) U := by
  rw [run_neq_struct (P := Tryz.prog) (w := U) 65 #[.string c, .string h, .int .i64 a, .string f, .int .i64 u] #[.string c, .string h, .int .i64 a, .string f, .int .i64 u]]
  rw [show (10000 : Nat) = 9999 + 1 from rfl, run_equalIn_struct (P := Tryz.prog) U 9999 65 #[.string c, .string h, .int .i64 a, .string f, .int .i64 u] #[.string c, .string h, .int .i64 a, .string f, .int .i64 u] (by kernel_rfl) (by kernel_rfl)]
  go_simp
theorem sameBg_eql (c h f : ByteArray) (a u : Int) (U : World) : (binOp .eql 65 (.agg #[.string c, .string h, .int .i64 a, .string f, .int .i64 u]) (.agg #[.string c, .string h, .int .i64 a, .string f, .int .i64 u])).run Tryz.prog U = .ok (.bool true) U := by
  have h1 := run_eql_struct (P := Tryz.prog) (w := U) 65 #[.string c, .string h, .int .i64 a, .string f, .int .i64 u] #[.string c, .string h, .int .i64 a, .string f, .int .i64 u]
  rw [h1]
  rw [show (10000 : Nat) = 9999 + 1 from rfl, run_equalIn_struct (P := Tryz.prog) U 9999 65 #[.string c, .string h, .int .i64 a, .string f, .int .i64 u] #[.string c, .string h, .int .i64 a, .string f, .int .i64 u] (by kernel_rfl) (by kernel_rfl)]
  go_simp
set_option maxRecDepth 20000 in
theorem sameBg_yes (v u : Value) (xs : List Bn) (w : World) (h1 : Row w v xs.length (bC xs)) (h2 : Row w u xs.length (bC xs)) (hm : xs.length ≤ maxLen) :
    Calls Tryz.prog 25 #[v, u] w fun e w' => e = .returned (.bool true) ∧ Below w.heap.size w w' := by
  obtain ⟨N, hN⟩ : ∃ N, N = xs.length := ⟨_, rfl⟩
  obtain ⟨x, c, rfl⟩ := row_slice h1
  obtain ⟨x', c', rfl⟩ := row_slice h2
  have HN : Hid (N = xs.length) := hN
  rw [← hN] at h1 h2 hm ⊢
  unfold maxLen at hm
  have HR1 : Hid (Row w (.slice x N c) N (bC xs)) := h1
  have HR2 : Hid (Row w (.slice x' N c') N (bC xs)) := h2
  have hne : ((N : Int) != (N : Int)) = false := by simp
  clear h1 h2 hN
  go_enter Tryz.func25, Tryz.ntmps25
  go_wp2
  go_loopw [5] (fun i wr => ∃ k : Nat, k ≤ N ∧ i = .int .i64 (k : Int) ∧ Hid (Below w.heap.size w wr)) (fun i _ => N - (intOf i).toNat)
  case atStart => exact ⟨0, Nat.zero_le _, rfl, Below.refl _ _⟩
  case round =>
    obtain ⟨k, hk, rfl, HB⟩ := hrel
    by_cases hkn : k < N
    · have hkn' : (k : Int) < (N : Int) := by omega
      have hka : k < xs.length := by have := HN.out; omega
      obtain ⟨g, o, cap, hx, hc⟩ := row_at (HR1.out.below HB.out) (by omega)
      obtain ⟨g', o', cap', hx', hc'⟩ := row_at (HR2.out.below HB.out) (by omega)
      simp only [Value.slice.injEq] at hx hx'
      obtain ⟨rfl, -, rfl⟩ := hx
      obtain ⟨rfl, -, rfl⟩ := hx'
      obtain ⟨⟨pc, ph, pa, pf, pu⟩, hp⟩ : ∃ p, p = xs[k] := ⟨_, rfl⟩
      have hfl := fun i hi => atBg hka i hi
      rw [← hp] at hfl
      have d0 := hc (k * 5 + 0) _ (hfl 0 (by omega))
      have d1 := hc (k * 5 + 1) _ (hfl 1 (by omega))
      have d2 := hc (k * 5 + 2) _ (hfl 2 (by omega))
      have d3 := hc (k * 5 + 3) _ (hfl 3 (by omega))
      have d4 := hc (k * 5 + 4) _ (hfl 4 (by omega))
      have e0 := hc' (k * 5 + 0) _ (hfl 0 (by omega))
      have e1 := hc' (k * 5 + 1) _ (hfl 1 (by omega))
      have e2 := hc' (k * 5 + 2) _ (hfl 2 (by omega))
      have e3 := hc' (k * 5 + 3) _ (hfl 3 (by omega))
      have e4 := hc' (k * 5 + 4) _ (hfl 4 (by omega))
      simp only [Nat.add_zero, ← Nat.add_assoc] at d0 d1 d2 d3 d4 e0 e1 e2 e3 e4
      have heq := fun u => sameBg_neq pc ph pf pa pu u
      clear hc hc' hfl hp
      go_wp2
      go_region
      go_wp2
      have HB2 : Hid (Below w.heap.size w wr.drew) := next HB.out (Below.refl _ _).drew
      go_roundw
      case rel => exact ⟨k + 1, by omega, by go_num, HB2⟩
      case measure => simp [intOf]; omega
    · have hkn' : decide (k < N) = false := by simpa using hkn
      go_wp2
      go_ret
      exact ⟨rfl, HB.out⟩
theorem marksBg {w : World} {g : Nat} {xs : List Bn} (h : Lies w g (bC xs ++ bC mkBg)) : ∀ i u, (bC mkBg)[i]? = some u → w.cell? ⟨g, xs.length * 5 + i, none⟩ = some u := fun i u hu => h _ _ (by
  rw [List.getElem?_append_right (by rw [lenBg]; omega), lenBg, Nat.add_sub_cancel_left]
  exact hu)
set_option maxRecDepth 20000 in
theorem keptBg_any (g cap : Nat) (u : Value) (xs : List Bn) (w : World) (hl : Lies w g (bC xs ++ bC mkBg)) (hcap : xs.length + 2 ≤ cap) (h2 : Row w u xs.length (bC xs)) (hn : xs.length ≤ 2199023255490) :
    Calls Tryz.prog 16 #[.slice (some ⟨g, 0, none⟩) xs.length cap, u] w fun e w' => e = .returned (.bool true) ∧ Below w.heap.size w w' := by
  have hsame := sameBg_yes _ u xs w (hl.row (cap := cap) (n := xs.length)) h2 (by unfold maxLen; omega)
  have HM : Hid (Lies w g (bC xs ++ bC mkBg)) := hl
  have hmk := fun u => sameBg_eql ⟨#[]⟩ ⟨#[]⟩ ⟨#[]⟩ 77777 0 u
  obtain ⟨y, d, e2⟩ := row_slice h2
  obtain ⟨N, hN⟩ : ∃ N, N = xs.length := ⟨_, rfl⟩
  have HN : Hid (N = xs.length) := hN
  rw [← hN] at hsame e2 hn hcap ⊢
  subst e2
  clear hN h2 hl
  have hcap2 : (N : Int) + 2 ≤ (cap : Int) := by omega
  go_enter Tryz.func16, Tryz.ntmps16
  go_wp2_with (go_at_call 25; go_must (refine hsame.mono ?_); rintro e w1 ⟨rfl, b1⟩; have mm := marksBg (HM.out.below b1); rw [← HN.out] at mm; have m0 := mm 0 _ rfl; have m1 := mm 1 _ rfl; have m2 := mm 2 _ rfl; have m3 := mm 3 _ rfl; have m4 := mm 4 _ rfl; have m5 := mm 5 _ rfl; have m6 := mm 6 _ rfl; have m7 := mm 7 _ rfl; have m8 := mm 8 _ rfl; have m9 := mm 9 _ rfl; have n0 : w1.cell? ⟨g, (N + 1) * 5, none⟩ = some (.string ⟨#[]⟩) := (by have h := m5; rw [show N * 5 + 5 = (N + 1) * 5 + 0 by omega] at h; exact h); have n1 : w1.cell? ⟨g, (N + 1) * 5 + 1, none⟩ = some (.string ⟨#[]⟩) := (by have h := m6; rw [show N * 5 + 6 = (N + 1) * 5 + 1 by omega] at h; exact h); have n2 : w1.cell? ⟨g, (N + 1) * 5 + 2, none⟩ = some (.int .i64 77777) := (by have h := m7; rw [show N * 5 + 7 = (N + 1) * 5 + 2 by omega] at h; exact h); have n3 : w1.cell? ⟨g, (N + 1) * 5 + 3, none⟩ = some (.string ⟨#[]⟩) := (by have h := m8; rw [show N * 5 + 8 = (N + 1) * 5 + 3 by omega] at h; exact h); have n4 : w1.cell? ⟨g, (N + 1) * 5 + 4, none⟩ = some (.int .i64 0) := (by have h := m9; rw [show N * 5 + 9 = (N + 1) * 5 + 4 by omega] at h; exact h); simp only [Nat.add_zero] at m0; clear mm m5 m6 m7 m8 m9)
  go_ret
  exact ⟨rfl, b1⟩
/-- From the place j on each one's number is one. -/
def NumsBg (xs : List Value) (j n : Nat) : Prop := ∀ i, j ≤ i → i < n → ∃ q : Int, xs[i * 5 + 2]? = some (.int .i64 q)
theorem NumsBg.set {xs : List Value} {j n : Nat} (h : NumsBg xs j n) (v : Value) : NumsBg (xs.set (j * 5 + 2) v) (j + 1) n := by
  intro i hi hn
  obtain ⟨q, h1⟩ := h i (by omega) hn
  exact ⟨q, by rw [List.getElem?_set_ne (by omega)]; exact h1⟩
theorem numsBg (xs : List Bn) : NumsBg (bC xs) 0 xs.length := fun i _ hi => ⟨xs[i].a, by rw [atBg hi 2 (by decide)]; rfl⟩
set_option maxRecDepth 20000 in
theorem spoilBg_any {B n cap : Nat} {y : Option Addr} {xs : List Value} {w : World} (hown : w.ownsRow B 65 5 (.slice y n cap) n xs) (hi : NumsBg xs 0 n) (hn : n ≤ 2199023255490) :
    Calls Tryz.prog 18 #[.slice y n cap] w fun e w' => e = .returned (.tuple #[]) ∧ Turn (fun k => (Value.slice y n cap).ownBlock = some k) w w' := by
  have HT : Hid (Turn (fun k => (Value.slice y n cap).ownBlock = some k) w w) := Turn.refl _ _
  by_cases h0 : n = 0
  · subst h0
    clear hown hi
    go_enter Tryz.func18, Tryz.ntmps18
    go_wp2
    go_loopw [2] (fun i wr => i = .int .i64 0 ∧ wr = w) (fun _ _ => 0)
    case atStart => exact ⟨rfl, rfl⟩
    case round =>
      obtain ⟨rfl, rfl⟩ := hrel
      go_wp2
      go_end0
      exact ⟨rfl, HT.out⟩
  · obtain ⟨g, cap', e1, _, _⟩ := hown.form (by omega)
    simp only [Value.slice.injEq, true_and] at e1
    obtain ⟨rfl, rfl⟩ := e1
    have HS : Hid (w.ownsRow B 65 5 (.slice (some ⟨g, 0, none⟩) n cap) n xs ∧ NumsBg xs 0 n ∧ Turn (fun k => (Value.slice (some ⟨g, 0, none⟩) n cap).ownBlock = some k) w w) := ⟨hown, hi, HT.out⟩
    clear hown hi HT
    go_enter Tryz.func18, Tryz.ntmps18
    go_wp2
    go_loopw [2] (fun i wr => ∃ (j : Nat) (xs' : List Value), j ≤ n ∧ i = .int .i64 (j : Int) ∧ Hid (wr.ownsRow B 65 5 (.slice (some ⟨g, 0, none⟩) n cap) n xs' ∧ NumsBg xs' j n ∧ Turn (fun k => (Value.slice (some ⟨g, 0, none⟩) n cap).ownBlock = some k) w wr)) (fun i _ => n - (intOf i).toNat)
    case atStart => exact ⟨0, xs, Nat.zero_le _, rfl, HS⟩
    case round =>
      clear HS
      obtain ⟨j, xs', hj, rfl, HS⟩ := hrel
      by_cases hjn : j < n
      · have hjn' : (j : Int) < (n : Int) := by omega
        obtain ⟨q, ht⟩ := HS.out.2.1 j (Nat.le_refl _) hjn
        have c1 : wr.cell? ⟨g, j * 5 + 2, none⟩ = some (.int .i64 q) := by rw [HS.out.1.cellAt (j * 5 + 2) (by omega)]; exact ht
        have f1 := HS.out.1.frozenAt (j * 5 + 2)
        obtain ⟨Z, hZ⟩ : ∃ Z, bits .xor .i64 q 90 = Z := ⟨_, rfl⟩
        have HST : Hid ((wr.setCell ⟨g, j * 5 + 2, none⟩ (.int .i64 Z)).ownsRow B 65 5 (.slice (some ⟨g, 0, none⟩) n cap) n (xs'.set (j * 5 + 2) (.int .i64 Z)) ∧ NumsBg (xs'.set (j * 5 + 2) (.int .i64 Z)) (j + 1) n ∧ Turn (fun k => (Value.slice (some ⟨g, 0, none⟩) n cap).ownBlock = some k) w (wr.setCell ⟨g, j * 5 + 2, none⟩ (.int .i64 Z))) :=
          ⟨(HS.out.1.stored _ _).1, HS.out.2.1.set _, HS.out.2.2.same (Turn.of_set (S := fun k => (Value.slice (some ⟨g, 0, none⟩) n cap).ownBlock = some k) wr (p := ⟨g, j * 5 + 2, none⟩) rfl _)⟩
        clear ht
        go_wp2
        go_roundw
        case rel => exact ⟨j + 1, _, by omega, by go_num, HST.out⟩
        case measure => simp [intOf]; omega
      · have hjn' : decide (j < n) = false := by simpa using hjn
        go_wp2
        go_end0
        exact ⟨rfl, HS.out.2.2⟩

end Cu
end Go.Proofs.YtnjgdfmldjgloaaGreat
