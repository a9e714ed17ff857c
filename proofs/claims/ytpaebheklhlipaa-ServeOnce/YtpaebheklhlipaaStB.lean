/- Rows of texts: how they lie, and what the laws' helpers do with them. -/
import Derived.Test.YtpaebheklhlipaaGnB
import Derived.Test.YtpaebheklhlipaaWalkU
import Derived.Test.YtpaebheklhlipaaStC
import Derived.Deep.DeepCutAuto
namespace Go.Proofs.Ytpaebheklhlipaa
open Go.RowKit
open Pl
/-- Texts as cells. -/
def tC (ds : List ByteArray) : List Value := ds.map Value.string
theorem tC_len (ds : List ByteArray) : (tC ds).length = ds.length := by simp [tC]
theorem tC_app (a b : List ByteArray) : tC (a ++ b) = tC a ++ tC b := by simp [tC]
theorem tC_one (a : List ByteArray) : ∀ u ∈ tC a, u.oneCell' = true := by
  intro u hu
  simp only [tC, List.mem_map] at hu
  obtain ⟨m, _, rfl⟩ := hu
  rfl
theorem tC_at {ds : List ByteArray} {k : Nat} (hk : k < ds.length) : (tC ds)[k]? = some (.string ds[k]) := by
  unfold tC; rw [List.getElem?_map, List.getElem?_eq_getElem hk]; rfl
theorem str_eqd (a b : ByteArray) : (a.toList == b.toList) = decide (a = b) := by
  rw [Bool.eq_iff_iff, beq_iff_eq, decide_eq_true_eq]
  exact ⟨fun h => bytes_ext (by rw [ByteArray.toList_eq, ByteArray.toList_eq] at h; exact h), fun e => by rw [e]⟩
set_option maxRecDepth 20000 in
theorem sameT_any (v u : Value) (a b : List ByteArray) (w : World) (h1 : Row w v a.length (tC a)) (h2 : Row w u b.length (tC b)) (hm1 : a.length ≤ maxLen) (hm2 : b.length ≤ maxLen) (r : Bool) (hr : decide (a = b) = r) :
    Calls Try.prog 12 #[v, u] w fun e w' => e = .returned (.bool r) ∧ Below w.heap.size w w' := by
  obtain ⟨N, hN⟩ : ∃ N, N = a.length := ⟨_, rfl⟩
  obtain ⟨M, hM⟩ : ∃ M, M = b.length := ⟨_, rfl⟩
  obtain ⟨x, c, rfl⟩ := row_slice h1
  obtain ⟨x', c', rfl⟩ := row_slice h2
  have HN : Hid (N = a.length) := hN
  have HM : Hid (M = b.length) := hM
  rw [← hN] at h1 hm1 ⊢
  rw [← hM] at h2 hm2 ⊢
  unfold maxLen at hm1 hm2
  have HR1 : Hid (Row w (.slice x N c) N (tC a)) := h1
  have HR2 : Hid (Row w (.slice x' M c') M (tC b)) := h2
  have HR : Hid (decide (a = b) = r) := hr
  have hb : Below w.heap.size w w := Below.refl _ _
  by_cases hl : N = M
  · have HL : Hid (N = M) := hl
    have hne : ((N : Int) != (M : Int)) = false := by rw [hl]; simp
    clear h1 h2 hr hN hM hl
    go_enter Try.func12, Try.ntmps12
    go_wp2
    go_loopw [5] (fun i wr => ∃ k : Nat, k ≤ N ∧ i = .int .i64 (k : Int) ∧ Hid (a.take k = b.take k) ∧ Below w.heap.size w wr) (fun i _ => N - (intOf i).toNat)
    case atStart => exact ⟨0, Nat.zero_le _, rfl, by unfold Hid; simp, hb⟩
    case round =>
      clear hb
      obtain ⟨k, hk, rfl, HT, hb⟩ := hrel
      by_cases hkn : k < N
      · have hkn' : (k : Int) < (N : Int) := by omega
        have hka : k < a.length := by have := HN.out; omega
        have hkb : k < b.length := by have := HM.out; have := HL.out; omega
        have hkm' : (k : Int) < (M : Int) := by have := HL.out; omega
        obtain ⟨g, o, cap, hx, hc⟩ := row_at (HR1.out.below hb) (by omega)
        obtain ⟨g', o', cap', hx', hc'⟩ := row_at (HR2.out.below hb) (by omega)
        simp only [Value.slice.injEq] at hx hx'
        obtain ⟨rfl, -, rfl⟩ := hx
        obtain ⟨rfl, -, rfl⟩ := hx'
        have d0 := hc k _ (tC_at hka)
        have e0 := hc' k _ (tC_at hkb)
        obtain ⟨p, hp⟩ : ∃ p, p = a[k] := ⟨_, rfl⟩
        obtain ⟨q, hq⟩ : ∃ q, q = b[k] := ⟨_, rfl⟩
        have HP : Hid (p = a[k]) := hp
        have HQ : Hid (q = b[k]) := hq
        rw [← hp] at d0
        rw [← hq] at e0
        clear hc hc' hp hq
        by_cases e : p = q
        · have HT2 : Hid (a.take (k + 1) = b.take (k + 1)) := by
            unfold Hid
            rw [List.take_succ_eq_append_getElem hka, List.take_succ_eq_append_getElem hkb, HT.out, ← HP.out, ← HQ.out, e]
          subst e
          go_wp2
          go_region
          go_wp2
          go_roundw
          case rel => exact ⟨k + 1, by omega, by go_num, HT2, next hb (below_drew ⟨1, rfl⟩)⟩
          case measure => simp [intOf]; omega
        · have hpq : (p.toList == q.toList) = false := by rw [str_eqd]; simpa using e
          have HF : Hid (r = false) := by
            unfold Hid
            rw [← HR.out, decide_eq_false_iff_not]
            rintro rfl
            exact e (HP.out.trans HQ.out.symm)
          clear e
          go_wp2
          go_region
          go_wp2
          go_ret
          exact ⟨ret_bool HF.out.symm, next hb (below_drew ⟨1, rfl⟩)⟩
      · have hkn' : decide (k < N) = false := by simpa using hkn
        have HF : Hid (r = true) := by
          unfold Hid
          rw [← HR.out, decide_eq_true_eq]
          have h1 := HT.out
          have h2 := HN.out
          have h3 := HM.out
          have h4 := HL.out
          rw [List.take_of_length_le (by omega), List.take_of_length_le (by omega)] at h1
          exact h1
        go_wp2
        go_ret
        exact ⟨ret_bool HF.out.symm, hb⟩
  · have hne : ((N : Int) != (M : Int)) = true := by simp; omega
    have HF : Hid (r = false) := by
      unfold Hid
      rw [← hr, decide_eq_false_iff_not]
      rintro rfl
      omega
    clear h1 h2 hr hl HR hN hM
    go_enter Try.func12, Try.ntmps12
    go_wp2
    go_ret
    exact ⟨ret_bool HF.out.symm, hb⟩
theorem info9' : (Try.prog.info? 9).map (fun i => (i.zero, i.size, i.bytes)) = some (some (.string ⟨#[]⟩), 1, 16) := by kernel_rfl
/-- Rows that were lent: their cells, and the marks behind them. -/
def Lies (w : World) (g : Nat) (xs : List Value) : Prop := ∀ j u, xs[j]? = some u → w.cell? ⟨g, j, none⟩ = some u
theorem Lies.below {w w' : World} {g : Nat} {xs : List Value} (h : Lies w g xs) (hb : Below w.heap.size w w') : Lies w' g xs := fun j u hu => by
  have h1 := h j u hu
  rw [hb.cell (World.block_lt_of_cell? _ _ h1)]; exact h1
theorem Lies.turn {S : Nat → Prop} {w w' : World} {g : Nat} {xs : List Value} (h : Lies w g xs) (ht : Turn S w w') (hs : ¬ S g) : Lies w' g xs := fun j u hu => by
  have h1 := h j u hu
  have hlt := World.block_lt_of_cell? _ _ h1
  have hb := ht.block g hlt hs
  unfold World.cell? at h1 ⊢
  simp only [hb]
  exact h1
theorem Lies.row {w : World} {g cap n : Nat} {xs ys : List Value} (h : Lies w g (xs ++ ys)) : Row w (.slice (some ⟨g, 0, none⟩) n cap) n xs := by
  refine .inr ⟨g, 0, none, cap, rfl, fun _ => rfl, fun j u hu => ?_⟩
  rw [Nat.zero_add]
  refine h j u ?_
  rw [List.getElem?_append_left (List.getElem?_eq_some_iff.1 hu).1]
  exact hu
theorem lies_own {w : World} {base e z g cap N : Nat} {xs : List Value} (h : w.ownsRow base e z (.slice (some ⟨g, 0, none⟩) N cap) N xs) : Lies w g xs ∧ N ≤ cap := by
  refine ⟨fun j u hu => ?_, ?_⟩
  · have hj := (List.getElem?_eq_some_iff.1 hu).1
    rw [h.cellAt j (by rw [← h.1]; exact hj), hu]
  · rcases h.2 with ⟨e, _⟩ | ⟨g', cap', cur, e, _, _, hnc, _⟩
    · simp at e
    · simp at e; omega
/-- The marks behind texts that were lent. -/
def mkT : List ByteArray := [⟨#[126, 114, 111, 111, 109]⟩, ⟨#[126, 98, 101, 104, 105, 110, 100]⟩]
theorem copyT_any (v : Value) (ds : List ByteArray) (w : World) (h : Row w v ds.length (tC ds)) (hn : ds.length ≤ 8796093022000) :
    Calls Try.prog 24 #[v] w fun e w' => ∃ v', e = .returned v' ∧ w'.ownsRow w.heap.size 9 1 v' ds.length (tC ds) ∧ Below w.heap.size w w' := by
  obtain ⟨i0, hi, hz0, hz1, hz2⟩ := info_parts info9'
  have hb := lay (Below.refl w.heap.size w) (.cells #[] 9)
  have h2 := h.below hb
  have hown := own_blk (B := w.heap.size) (z := 1) (n := 0) (xs := []) (Blk.new w #[] 9) (Nat.le_refl _) rfl rfl (Nat.zero_le _)
  obtain ⟨x, c, rfl⟩ := row_slice h
  go_enter Try.func24, Try.ntmps24
  go_wp2_with (at_builtin; refine wpList_appG _ rfl (.tmp 3) (.tmp 4) 22 9 i0 _ 1 16 Try.underlying22 hi hz0 hz1 hz2 rfl (by decide) rfl w.heap.size _ 0 [] rfl hown _ ds.length (tC ds) rfl h2 (by rw [tC_len, Nat.mul_one]) (tC_one ds) (by omega) (by unfold maxLen; omega) hb.size ?_; intro v' w2 h1 h3 _)
  go_ret
  exact ⟨_, rfl, by simpa using h1, hb.grown h3 hb.size (fun j e => (hown.lt j e).1)⟩
theorem lendT_any (v : Value) (ds : List ByteArray) (w : World) (h : Row w v ds.length (tC ds)) (hn : ds.length ≤ 8796093022000) :
    Calls Try.prog 6 #[v] w fun e w' => ∃ g cap, e = .returned (.slice (some ⟨g, 0, none⟩) ds.length cap) ∧ ds.length + 2 ≤ cap ∧ Lies w' g (tC ds ++ tC mkT) ∧ w.heap.size ≤ g ∧ Below w.heap.size w w' := by
  obtain ⟨i0, hi, hz0, hz1, hz2⟩ := info_parts info9'
  obtain ⟨N, hN⟩ : ∃ N, N = ds.length := ⟨_, rfl⟩
  have HN : Hid (N = ds.length) := hN
  obtain ⟨x, c, hv⟩ := row_slice h
  have hc := copyT_any v ds w h hn
  rw [← hN] at hv hn ⊢
  subst hv
  clear hN
  go_enter Try.func6, Try.ntmps6
  go_wp2_with (first
    | (go_at_call 24; go_must (refine hc.mono ?_); rintro e w1 ⟨v1, rfl, hown, hb⟩; rw [← HN.out] at hown)
    | (at_builtin; refine wpList_appG _ rfl (.tmp 5) (.tmp 6) 22 9 i0 _ 1 16 Try.underlying22 hi hz0 hz1 hz2 rfl (by decide) rfl w.heap.size _ N (tC ds) rfl (hown.alloc _) (.slice (some ⟨w1.heap.size, 0, none⟩) 2 2) 2 (tC mkT) rfl (Row.of_blk (Blk.new w1 #[.string ⟨#[126, 114, 111, 111, 109]⟩, .string ⟨#[126, 98, 101, 104, 105, 110, 100]⟩] 9) rfl 2 2) rfl (tC_one _) (by omega) (by unfold maxLen; omega) (lay hb _).size ?_; intro v2 w2 h1 h3 _; obtain ⟨g, cap, rfl, _, _⟩ := h1.form (by omega); obtain ⟨hl, hcap⟩ := lies_own h1; have hcap2 : N ≤ cap := (by omega); have hgl := (h1.lt g rfl).1; have hb2 : Below w.heap.size w w2 := (lay hb _).grown h3 (lay hb _).size (fun j e => (hown.lt j e).1); clear h1 h3))
  go_ret
  exact ⟨g, cap, rfl, hcap, hl, hgl, hb2⟩
theorem marksT {w : World} {g : Nat} {ds : List ByteArray} (h : Lies w g (tC ds ++ tC mkT)) : w.cell? ⟨g, ds.length, none⟩ = some (.string ⟨#[126, 114, 111, 111, 109]⟩) ∧ w.cell? ⟨g, ds.length + 1, none⟩ = some (.string ⟨#[126, 98, 101, 104, 105, 110, 100]⟩) := by
  have hl := tC_len ds
  have H : ∀ i u, (tC mkT)[i]? = some u → w.cell? ⟨g, ds.length + i, none⟩ = some u := fun i u hu => h _ _ (by
    rw [List.getElem?_append_right (by omega), hl, show ds.length + i - ds.length = i from by omega]; exact hu)
  exact ⟨H 0 _ rfl, H 1 _ rfl⟩
set_option maxRecDepth 20000 in
theorem keptT_any (g cap : Nat) (u : Value) (ds : List ByteArray) (w : World) (hl : Lies w g (tC ds ++ tC mkT)) (hcap : ds.length + 2 ≤ cap) (h2 : Row w u ds.length (tC ds)) (hn : ds.length ≤ 8796093022000) :
    Calls Try.prog 16 #[.slice (some ⟨g, 0, none⟩) ds.length cap, u] w fun e w' => e = .returned (.bool true) ∧ Below w.heap.size w w' := by
  have hsame := sameT_any _ u ds ds w (hl.row (cap := cap) (n := ds.length)) h2 (by unfold maxLen; omega) (by unfold maxLen; omega) true (by simp)
  have HM : Hid (Lies w g (tC ds ++ tC mkT)) := hl
  obtain ⟨y, d, e2⟩ := row_slice h2
  obtain ⟨N, hN⟩ : ∃ N, N = ds.length := ⟨_, rfl⟩
  have HN : Hid (N = ds.length) := hN
  rw [← hN] at hsame e2 hn hcap ⊢
  subst e2
  clear hN h2 hl
  have hcap2 : (N : Int) + 2 ≤ (cap : Int) := by omega
  go_enter Try.func16, Try.ntmps16
  go_wp2_with (go_at_call 12; go_must (refine hsame.mono ?_); rintro e w1 ⟨rfl, b1⟩; have mm := marksT (HM.out.below b1); rw [← HN.out] at mm; obtain ⟨m0, m1⟩ := mm)
  go_ret
  exact ⟨rfl, b1⟩
/-- From the place j on there are n texts, none of them too great. -/
def TextsF (xs : List Value) (j n : Nat) : Prop := ∀ i, j ≤ i → i < n → ∃ s : ByteArray, xs[i]? = some (.string s) ∧ s.size ≤ 140737488351232
theorem TextsF.set {xs : List Value} {j n : Nat} (h : TextsF xs j n) (v : Value) : TextsF (xs.set j v) (j + 1) n := by
  intro i hi hn
  obtain ⟨s, h1, h2⟩ := h i (by omega) hn
  exact ⟨s, by rw [List.getElem?_set_ne (by omega)]; exact h1, h2⟩
theorem textsF_tC {ds : List ByteArray} (h : ∀ d ∈ ds, d.size ≤ 140737488351232) : TextsF (tC ds) 0 ds.length := fun i _ hi => ⟨ds[i], tC_at hi, h _ (List.getElem_mem _)⟩
set_option maxRecDepth 20000 in
theorem spoilT_far {B n cap : Nat} {y : Option Addr} {xs : List Value} {w : World} (hown : w.ownsRow B 9 1 (.slice y n cap) n xs) (hi : TextsF xs 0 n) (hn : n ≤ 8796093022000) :
    Calls Try.prog 15 #[.slice y n cap] w fun e w' => e = .returned (.tuple #[]) ∧ Turn (fun k => (Value.slice y n cap).ownBlock = some k) w w' := by
  have HT : Hid (Turn (fun k => (Value.slice y n cap).ownBlock = some k) w w) := Turn.refl _ _
  by_cases h0 : n = 0
  · subst h0
    clear hown hi
    go_enter Try.func15, Try.ntmps15
    go_wp2
    go_loopw [2] (fun i wr => i = .int .i64 0 ∧ wr = w) (fun _ _ => 0)
    case atStart => exact ⟨rfl, rfl⟩
    case round =>
      obtain ⟨rfl, rfl⟩ := hrel
      go_wp2
      go_end0
      exact ⟨rfl, HT.out⟩
  · obtain ⟨g, cap', e1, _, _⟩ := hown.form (by omega)
    simp only [Value.slice.injEq, true_and] at e1
    obtain ⟨rfl, rfl⟩ := e1
    have HS : Hid (w.ownsRow B 9 1 (.slice (some ⟨g, 0, none⟩) n cap) n xs ∧ TextsF xs 0 n ∧ Turn (fun k => (Value.slice (some ⟨g, 0, none⟩) n cap).ownBlock = some k) w w) := ⟨hown, hi, HT.out⟩
    clear hown hi HT
    go_enter Try.func15, Try.ntmps15
    go_wp2
    go_loopw [2] (fun i wr => ∃ (j : Nat) (xs' : List Value), j ≤ n ∧ i = .int .i64 (j : Int) ∧ Hid (wr.ownsRow B 9 1 (.slice (some ⟨g, 0, none⟩) n cap) n xs' ∧ TextsF xs' j n ∧ Turn (fun k => (Value.slice (some ⟨g, 0, none⟩) n cap).ownBlock = some k) w wr)) (fun i _ => n - (intOf i).toNat)
    case atStart => exact ⟨0, xs, Nat.zero_le _, rfl, HS⟩
    case round =>
      clear HS
      obtain ⟨j, xs', hj, rfl, HS⟩ := hrel
      by_cases hjn : j < n
      · obtain ⟨s, ht, hs⟩ := HS.out.2.1 j (Nat.le_refl _) hjn
        have c1 : wr.cell? ⟨g, j, none⟩ = some (.string s) := by rw [HS.out.1.cellAt j (by omega)]; exact ht
        have f1 := HS.out.1.frozenAt j
        have HST : Hid ((wr.setCell ⟨g, j, none⟩ (.string (⟨#[126]⟩ ++ s))).ownsRow B 9 1 (.slice (some ⟨g, 0, none⟩) n cap) n (xs'.set j (.string (⟨#[126]⟩ ++ s))) ∧ TextsF (xs'.set j (.string (⟨#[126]⟩ ++ s))) (j + 1) n ∧ Turn (fun k => (Value.slice (some ⟨g, 0, none⟩) n cap).ownBlock = some k) w (wr.setCell ⟨g, j, none⟩ (.string (⟨#[126]⟩ ++ s)))) :=
          ⟨(HS.out.1.stored _ _).1, HS.out.2.1.set _, HS.out.2.2.same (Turn.of_set (S := fun k => (Value.slice (some ⟨g, 0, none⟩) n cap).ownBlock = some k) wr (p := ⟨g, j, none⟩) rfl _)⟩
        have zz : ∀ u : World, (Op.stringOp .add ⟨#[126]⟩ s).run Try.prog u = .ok (.string (⟨#[126]⟩ ++ s)) u := fun u => run_string_add_sum u _ s (by show 1 + s.size ≤ _; omega)
        clear ht
        go_wp2
        go_roundw
        case rel => exact ⟨j + 1, _, by omega, by go_num, HST.out⟩
        case measure => simp [intOf]; omega
      · have hjn' : decide (j < n) = false := by simpa using hjn
        go_wp2
        go_end0
        exact ⟨rfl, HS.out.2.2⟩

end Go.Proofs.Ytpaebheklhlipaa
