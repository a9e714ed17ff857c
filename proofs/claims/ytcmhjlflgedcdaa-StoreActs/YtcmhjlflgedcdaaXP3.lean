/- Rows of texts: how they lie, and what the laws' helpers do with them. -/
import Derived.Test.YtcmhjlflgedcdaaXP2
import Derived.Deep.DeepCutAuto
import Derived.Maps.OwnSet
import Derived.Maps.OwnOps
import Derived.Maps.RangeWalk
import Derived.DeepKeys4
import Derived.Test.YtcmhjlflgedcdaaXP1
import Derived.Deep.WholeRow
import Derived.Deep.RegionHeld3
namespace Go.Proofs.Ytcmhjlflgedcdaa
open Go.RowKit
open Pl
/-- Texts as cells. -/
def tC (ds : List ByteArray) : List Value := ds.map Value.string
theorem tC_len (ds : List ByteArray) : (tC ds).length = ds.length := by simp [tC]
theorem tC_app (a b : List ByteArray) : tC (a ++ b) = tC a ++ tC b := by simp [tC]
theorem tC_one (a : List ByteArray) : ∀ u ∈ tC a, u.oneCell' = true := by
  intro u hu
  simp only [tC, List.mem_map] at hu
  obtain ⟨m, _, rfl⟩ := hu
  rfl
theorem tC_at {ds : List ByteArray} {k : Nat} (hk : k < ds.length) : (tC ds)[k]? = some (.string ds[k]) := by
  unfold tC; rw [List.getElem?_map, List.getElem?_eq_getElem hk]; rfl
theorem str_eqd (a b : ByteArray) : (a.toList == b.toList) = decide (a = b) := by
  rw [Bool.eq_iff_iff, beq_iff_eq, decide_eq_true_eq]
  exact ⟨fun h => bytes_ext (by rw [ByteArray.toList_eq, ByteArray.toList_eq] at h; exact h), fun e => by rw [e]⟩
set_option maxRecDepth 20000 in
theorem sameT_any (v u : Value) (a b : List ByteArray) (w : World) (h1 : Row w v a.length (tC a)) (h2 : Row w u b.length (tC b)) (hm1 : a.length ≤ maxLen) (hm2 : b.length ≤ maxLen) (r : Bool) (hr : decide (a = b) = r) :
    Calls Try.prog 26 #[v, u] w fun e w' => e = .returned (.bool r) ∧ Below w.heap.size w w' := by
  obtain ⟨N, hN⟩ : ∃ N, N = a.length := ⟨_, rfl⟩
  obtain ⟨M, hM⟩ : ∃ M, M = b.length := ⟨_, rfl⟩
  obtain ⟨x, c, rfl⟩ := row_slice h1
  obtain ⟨x', c', rfl⟩ := row_slice h2
  have HN : Hid (N = a.length) := hN
  have HM : Hid (M = b.length) := hM
  rw [← hN] at h1 hm1 ⊢
  rw [← hM] at h2 hm2 ⊢
  unfold maxLen at hm1 hm2
  have HR1 : Hid (Row w (.slice x N c) N (tC a)) := h1
  have HR2 : Hid (Row w (.slice x' M c') M (tC b)) := h2
  have HR : Hid (decide (a = b) = r) := hr
  have hb : Below w.heap.size w w := Below.refl _ _
  by_cases hl : N = M
  · have HL : Hid (N = M) := hl
    have hne : ((N : Int) != (M : Int)) = false := by rw [hl]; simp
    clear h1 h2 hr hN hM hl
    go_enter Try.func26, Try.ntmps26
    go_wp2
    go_loopw [5] (fun i wr => ∃ k : Nat, k ≤ N ∧ i = .int .i64 (k : Int) ∧ Hid (a.take k = b.take k) ∧ Below w.heap.size w wr) (fun i _ => N - (intOf i).toNat)
    case atStart => exact ⟨0, Nat.zero_le _, rfl, by unfold Hid; simp, hb⟩
    case round =>
      clear hb
      obtain ⟨k, hk, rfl, HT, hb⟩ := hrel
      by_cases hkn : k < N
      · have hkn' : (k : Int) < (N : Int) := by omega
        have hka : k < a.length := by have := HN.out; omega
        have hkb : k < b.length := by have := HM.out; have := HL.out; omega
        have hkm' : (k : Int) < (M : Int) := by have := HL.out; omega
        obtain ⟨g, o, cap, hx, hc⟩ := row_at (HR1.out.below hb) (by omega)
        obtain ⟨g', o', cap', hx', hc'⟩ := row_at (HR2.out.below hb) (by omega)
        simp only [Value.slice.injEq] at hx hx'
        obtain ⟨rfl, -, rfl⟩ := hx
        obtain ⟨rfl, -, rfl⟩ := hx'
        have d0 := hc k _ (tC_at hka)
        have e0 := hc' k _ (tC_at hkb)
        obtain ⟨p, hp⟩ : ∃ p, p = a[k] := ⟨_, rfl⟩
        obtain ⟨q, hq⟩ : ∃ q, q = b[k] := ⟨_, rfl⟩
        have HP : Hid (p = a[k]) := hp
        have HQ : Hid (q = b[k]) := hq
        rw [← hp] at d0
        rw [← hq] at e0
        clear hc hc' hp hq
        by_cases e : p = q
        · have HT2 : Hid (a.take (k + 1) = b.take (k + 1)) := by
            unfold Hid
            rw [List.take_succ_eq_append_getElem hka, List.take_succ_eq_append_getElem hkb, HT.out, ← HP.out, ← HQ.out, e]
          subst e
          go_wp2
          go_region
          go_wp2
          go_roundw
          case rel => exact ⟨k + 1, by omega, by go_num, HT2, next hb (below_drew ⟨1, rfl⟩)⟩
          case measure => simp [intOf]; omega
        · have hpq : (p.toList == q.toList) = false := by rw [str_eqd]; simpa using e
          have HF : Hid (r = false) := by
            unfold Hid
            rw [← HR.out, decide_eq_false_iff_not]
            rintro rfl
            exact e (HP.out.trans HQ.out.symm)
          clear e
          go_wp2
          go_region
          go_wp2
          go_ret
          exact ⟨ret_bool HF.out.symm, next hb (below_drew ⟨1, rfl⟩)⟩
      · have hkn' : decide (k < N) = false := by simpa using hkn
        have HF : Hid (r = true) := by
          unfold Hid
          rw [← HR.out, decide_eq_true_eq]
          have h1 := HT.out
          have h2 := HN.out
          have h3 := HM.out
          have h4 := HL.out
          rw [List.take_of_length_le (by omega), List.take_of_length_le (by omega)] at h1
          exact h1
        go_wp2
        go_ret
        exact ⟨ret_bool HF.out.symm, hb⟩
  · have hne : ((N : Int) != (M : Int)) = true := by simp; omega
    have HF : Hid (r = false) := by
      unfold Hid
      rw [← hr, decide_eq_false_iff_not]
      rintro rfl
      omega
    clear h1 h2 hr hl HR hN hM
    go_enter Try.func26, Try.ntmps26
    go_wp2
    go_ret
    exact ⟨ret_bool HF.out.symm, hb⟩
theorem info9' : (Try.prog.info? 9).map (fun i => (i.zero, i.size, i.bytes)) = some (some (.string ⟨#[]⟩), 1, 16) := by kernel_rfl
/-- Rows that were lent: their cells, and the marks behind them. -/
def Lies (w : World) (g : Nat) (xs : List Value) : Prop := ∀ j u, xs[j]? = some u → w.cell? ⟨g, j, none⟩ = some u
theorem Lies.below {w w' : World} {g : Nat} {xs : List Value} (h : Lies w g xs) (hb : Below w.heap.size w w') : Lies w' g xs := fun j u hu => by
  have h1 := h j u hu
  rw [hb.cell (World.block_lt_of_cell? _ _ h1)]; exact h1
theorem Lies.turn {S : Nat → Prop} {w w' : World} {g : Nat} {xs : List Value} (h : Lies w g xs) (ht : Turn S w w') (hs : ¬ S g) : Lies w' g xs := fun j u hu => by
  have h1 := h j u hu
  have hlt := World.block_lt_of_cell? _ _ h1
  have hb := ht.block g hlt hs
  unfold World.cell? at h1 ⊢
  simp only [hb]
  exact h1
theorem Lies.row {w : World} {g cap n : Nat} {xs ys : List Value} (h : Lies w g (xs ++ ys)) : Row w (.slice (some ⟨g, 0, none⟩) n cap) n xs := by
  refine .inr ⟨g, 0, none, cap, rfl, fun _ => rfl, fun j u hu => ?_⟩
  rw [Nat.zero_add]
  refine h j u ?_
  rw [List.getElem?_append_left (List.getElem?_eq_some_iff.1 hu).1]
  exact hu
theorem lies_own {w : World} {base e z g cap N : Nat} {xs : List Value} (h : w.ownsRow base e z (.slice (some ⟨g, 0, none⟩) N cap) N xs) : Lies w g xs ∧ N ≤ cap := by
  refine ⟨fun j u hu => ?_, ?_⟩
  · have hj := (List.getElem?_eq_some_iff.1 hu).1
    rw [h.cellAt j (by rw [← h.1]; exact hj), hu]
  · rcases h.2 with ⟨e, _⟩ | ⟨g', cap', cur, e, _, _, hnc, _⟩
    · simp at e
    · simp at e; omega
/-- The marks behind texts that were lent. -/
def mkT : List ByteArray := [⟨#[126, 114, 111, 111, 109]⟩, ⟨#[126, 98, 101, 104, 105, 110, 100]⟩]
theorem copyT_any (v : Value) (ds : List ByteArray) (w : World) (h : Row w v ds.length (tC ds)) (hn : ds.length ≤ 8796093022000) :
    Calls Try.prog 30 #[v] w fun e w' => ∃ v', e = .returned v' ∧ w'.ownsRow w.heap.size 9 1 v' ds.length (tC ds) ∧ Below w.heap.size w w' := by
  obtain ⟨i0, hi, hz0, hz1, hz2⟩ := info_parts info9'
  have hb := lay (Below.refl w.heap.size w) (.cells #[] 9)
  have h2 := h.below hb
  have hown := own_blk (B := w.heap.size) (z := 1) (n := 0) (xs := []) (Blk.new w #[] 9) (Nat.le_refl _) rfl rfl (Nat.zero_le _)
  obtain ⟨x, c, rfl⟩ := row_slice h
  go_enter Try.func30, Try.ntmps30
  go_wp2_with (at_builtin; refine wpList_appG _ rfl (.tmp 3) (.tmp 4) 32 9 i0 _ 1 16 Try.underlying32 hi hz0 hz1 hz2 rfl (by decide) rfl w.heap.size _ 0 [] rfl hown _ ds.length (tC ds) rfl h2 (by rw [tC_len, Nat.mul_one]) (tC_one ds) (by omega) (by unfold maxLen; omega) hb.size ?_; intro v' w2 h1 h3 _)
  go_ret
  exact ⟨_, rfl, by simpa using h1, hb.grown h3 hb.size (fun j e => (hown.lt j e).1)⟩
theorem lendT_any (v : Value) (ds : List ByteArray) (w : World) (h : Row w v ds.length (tC ds)) (hn : ds.length ≤ 8796093022000) :
    Calls Try.prog 13 #[v] w fun e w' => ∃ g cap, e = .returned (.slice (some ⟨g, 0, none⟩) ds.length cap) ∧ ds.length + 2 ≤ cap ∧ Lies w' g (tC ds ++ tC mkT) ∧ w.heap.size ≤ g ∧ Below w.heap.size w w' := by
  obtain ⟨i0, hi, hz0, hz1, hz2⟩ := info_parts info9'
  obtain ⟨N, hN⟩ : ∃ N, N = ds.length := ⟨_, rfl⟩
  have HN : Hid (N = ds.length) := hN
  obtain ⟨x, c, hv⟩ := row_slice h
  have hc := copyT_any v ds w h hn
  rw [← hN] at hv hn ⊢
  subst hv
  clear hN
  go_enter Try.func13, Try.ntmps13
  go_wp2_with (first
    | (go_at_call 30; go_must (refine hc.mono ?_); rintro e w1 ⟨v1, rfl, hown, hb⟩; rw [← HN.out] at hown)
    | (at_builtin; refine wpList_appG _ rfl (.tmp 5) (.tmp 6) 32 9 i0 _ 1 16 Try.underlying32 hi hz0 hz1 hz2 rfl (by decide) rfl w.heap.size _ N (tC ds) rfl (hown.alloc _) (.slice (some ⟨w1.heap.size, 0, none⟩) 2 2) 2 (tC mkT) rfl (Row.of_blk (Blk.new w1 #[.string ⟨#[126, 114, 111, 111, 109]⟩, .string ⟨#[126, 98, 101, 104, 105, 110, 100]⟩] 9) rfl 2 2) rfl (tC_one _) (by omega) (by unfold maxLen; omega) (lay hb _).size ?_; intro v2 w2 h1 h3 _; obtain ⟨g, cap, rfl, _, _⟩ := h1.form (by omega); obtain ⟨hl, hcap⟩ := lies_own h1; have hcap2 : N ≤ cap := (by omega); have hgl := (h1.lt g rfl).1; have hb2 : Below w.heap.size w w2 := (lay hb _).grown h3 (lay hb _).size (fun j e => (hown.lt j e).1); clear h1 h3))
  go_ret
  exact ⟨g, cap, rfl, hcap, hl, hgl, hb2⟩
theorem marksT {w : World} {g : Nat} {ds : List ByteArray} (h : Lies w g (tC ds ++ tC mkT)) : w.cell? ⟨g, ds.length, none⟩ = some (.string ⟨#[126, 114, 111, 111, 109]⟩) ∧ w.cell? ⟨g, ds.length + 1, none⟩ = some (.string ⟨#[126, 98, 101, 104, 105, 110, 100]⟩) := by
  have hl := tC_len ds
  have H : ∀ i u, (tC mkT)[i]? = some u → w.cell? ⟨g, ds.length + i, none⟩ = some u := fun i u hu => h _ _ (by
    rw [List.getElem?_append_right (by omega), hl, show ds.length + i - ds.length = i from by omega]; exact hu)
  exact ⟨H 0 _ rfl, H 1 _ rfl⟩
set_option maxRecDepth 20000 in
theorem keptT_any (g cap : Nat) (u : Value) (ds : List ByteArray) (w : World) (hl : Lies w g (tC ds ++ tC mkT)) (hcap : ds.length + 2 ≤ cap) (h2 : Row w u ds.length (tC ds)) (hn : ds.length ≤ 8796093022000) :
    Calls Try.prog 16 #[.slice (some ⟨g, 0, none⟩) ds.length cap, u] w fun e w' => e = .returned (.bool true) ∧ Below w.heap.size w w' := by
  have hsame := sameT_any _ u ds ds w (hl.row (cap := cap) (n := ds.length)) h2 (by unfold maxLen; omega) (by unfold maxLen; omega) true (by simp)
  have HM : Hid (Lies w g (tC ds ++ tC mkT)) := hl
  obtain ⟨y, d, e2⟩ := row_slice h2
  obtain ⟨N, hN⟩ : ∃ N, N = ds.length := ⟨_, rfl⟩
  have HN : Hid (N = ds.length) := hN
  rw [← hN] at hsame e2 hn hcap ⊢
  subst e2
  clear hN h2 hl
  have hcap2 : (N : Int) + 2 ≤ (cap : Int) := by omega
  go_enter Try.func16, Try.ntmps16
  go_wp2_with (go_at_call 26; go_must (refine hsame.mono ?_); rintro e w1 ⟨rfl, b1⟩; have mm := marksT (HM.out.below b1); rw [← HN.out] at mm; obtain ⟨m0, m1⟩ := mm)
  go_ret
  exact ⟨rfl, b1⟩
/-- From the place j on there are n texts, none of them too great. -/
def TextsF (xs : List Value) (j n : Nat) : Prop := ∀ i, j ≤ i → i < n → ∃ s : ByteArray, xs[i]? = some (.string s) ∧ s.size ≤ 140737488351232
theorem TextsF.set {xs : List Value} {j n : Nat} (h : TextsF xs j n) (v : Value) : TextsF (xs.set j v) (j + 1) n := by
  intro i hi hn
  obtain ⟨s, h1, h2⟩ := h i (by omega) hn
  exact ⟨s, by rw [List.getElem?_set_ne (by omega)]; exact h1, h2⟩
theorem textsF_tC {ds : List ByteArray} (h : ∀ d ∈ ds, d.size ≤ 140737488351232) : TextsF (tC ds) 0 ds.length := fun i _ hi => ⟨ds[i], tC_at hi, h _ (List.getElem_mem _)⟩
set_option maxRecDepth 20000 in
theorem spoilT_far {B n cap : Nat} {y : Option Addr} {xs : List Value} {w : World} (hown : w.ownsRow B 9 1 (.slice y n cap) n xs) (hi : TextsF xs 0 n) (hn : n ≤ 8796093022000) :
    Calls Try.prog 17 #[.slice y n cap] w fun e w' => e = .returned (.tuple #[]) ∧ Turn (fun k => (Value.slice y n cap).ownBlock = some k) w w' := by
  have HT : Hid (Turn (fun k => (Value.slice y n cap).ownBlock = some k) w w) := Turn.refl _ _
  by_cases h0 : n = 0
  · subst h0
    clear hown hi
    go_enter Try.func17, Try.ntmps17
    go_wp2
    go_loopw [2] (fun i wr => i = .int .i64 0 ∧ wr = w) (fun _ _ => 0)
    case atStart => exact ⟨rfl, rfl⟩
    case round =>
      obtain ⟨rfl, rfl⟩ := hrel
      go_wp2
      go_end0
      exact ⟨rfl, HT.out⟩
  · obtain ⟨g, cap', e1, _, _⟩ := hown.form (by omega)
    simp only [Value.slice.injEq, true_and] at e1
    obtain ⟨rfl, rfl⟩ := e1
    have HS : Hid (w.ownsRow B 9 1 (.slice (some ⟨g, 0, none⟩) n cap) n xs ∧ TextsF xs 0 n ∧ Turn (fun k => (Value.slice (some ⟨g, 0, none⟩) n cap).ownBlock = some k) w w) := ⟨hown, hi, HT.out⟩
    clear hown hi HT
    go_enter Try.func17, Try.ntmps17
    go_wp2
    go_loopw [2] (fun i wr => ∃ (j : Nat) (xs' : List Value), j ≤ n ∧ i = .int .i64 (j : Int) ∧ Hid (wr.ownsRow B 9 1 (.slice (some ⟨g, 0, none⟩) n cap) n xs' ∧ TextsF xs' j n ∧ Turn (fun k => (Value.slice (some ⟨g, 0, none⟩) n cap).ownBlock = some k) w wr)) (fun i _ => n - (intOf i).toNat)
    case atStart => exact ⟨0, xs, Nat.zero_le _, rfl, HS⟩
    case round =>
      clear HS
      obtain ⟨j, xs', hj, rfl, HS⟩ := hrel
      by_cases hjn : j < n
      · obtain ⟨s, ht, hs⟩ := HS.out.2.1 j (Nat.le_refl _) hjn
        have c1 : wr.cell? ⟨g, j, none⟩ = some (.string s) := by rw [HS.out.1.cellAt j (by omega)]; exact ht
        have f1 := HS.out.1.frozenAt j
        have HST : Hid ((wr.setCell ⟨g, j, none⟩ (.string (⟨#[126]⟩ ++ s))).ownsRow B 9 1 (.slice (some ⟨g, 0, none⟩) n cap) n (xs'.set j (.string (⟨#[126]⟩ ++ s))) ∧ TextsF (xs'.set j (.string (⟨#[126]⟩ ++ s))) (j + 1) n ∧ Turn (fun k => (Value.slice (some ⟨g, 0, none⟩) n cap).ownBlock = some k) w (wr.setCell ⟨g, j, none⟩ (.string (⟨#[126]⟩ ++ s)))) :=
          ⟨(HS.out.1.stored _ _).1, HS.out.2.1.set _, HS.out.2.2.same (Turn.of_set (S := fun k => (Value.slice (some ⟨g, 0, none⟩) n cap).ownBlock = some k) wr (p := ⟨g, j, none⟩) rfl _)⟩
        have zz : ∀ u : World, (Op.stringOp .add ⟨#[126]⟩ s).run Try.prog u = .ok (.string (⟨#[126]⟩ ++ s)) u := fun u => run_string_add_sum u _ s (by show 1 + s.size ≤ _; omega)
        clear ht
        go_wp2
        go_roundw
        case rel => exact ⟨j + 1, _, by omega, by go_num, HST.out⟩
        case measure => simp [intOf]; omega
      · have hjn' : decide (j < n) = false := by simpa using hjn
        go_wp2
        go_end0
        exact ⟨rfl, HS.out.2.2⟩

end Go.Proofs.Ytcmhjlflgedcdaa

/- A store in memory: the map of its entries, each with a row of texts of its own. -/
namespace Go.Proofs.Ytcmhjlflgedcdaa
open Go.RowKit
open Pl

/-- An entry's cells. -/
abbrev Hc := ByteArray × Int × Int × Value × Int × Int
def hA (c : Hc) : Value := .agg #[.string c.1, .int .i64 c.2.1, .int .i64 c.2.2.1, c.2.2.2.1, .int .i64 c.2.2.2.2.1, .int .i64 c.2.2.2.2.2]
def eA (e : En) (d : Value) : Value := .agg #[.string e.n, .int .i64 e.t, .int .i64 e.l, d, .int .i64 e.r, .int .i64 e.u]
def hc (p : En × Value) : Hc := (p.1.n, p.1.t, p.1.l, p.2, p.1.r, p.1.u)
theorem hA_hc (p : En × Value) : hA (hc p) = eA p.1 p.2 := rfl
def rE : Value → Option (DataW Hc × List MemPlace)
  | .agg cs => match cs.toList with
    | [.string n, .int .i64 t, .int .i64 l, d, .int .i64 r, .int .i64 u] => some (.held (n, t, l, d, r, u), [])
    | _ => none
  | _ => none
theorem rE_mk (c : Hc) : rE (hA c) = some (.held c, []) := rfl
theorem rE_inv {v : Value} {y : DataW Hc × List MemPlace} (h : rE v = some y) : ∃ c, v = hA c ∧ y = (.held c, []) := by
  unfold rE at h
  split at h
  · rename_i cs
    split at h
    · rename_i n t l d r u he
      cases h
      refine ⟨(n, t, l, d, r, u), ?_, rfl⟩
      unfold hA
      have : cs = #[.string n, .int .i64 t, .int .i64 l, d, .int .i64 r, .int .i64 u] := by
        apply Array.ext'
        exact he
      rw [this]
    · cases h
  · cases h

theorem laidOutE : laidOutB Try.prog = true := by kernel_rfl
theorem keyE : Go.Maps.Keyed Try.prog 73 := Go.Maps.Keyed.of_law (deep_law_laid laidOutE (m := 3) (by omega) (of_decide_eq_true (by kernel_rfl)) (by kernel_rfl) (by kernel_rfl))
/-- A name and a type as a key. -/
def kyL (n : ByteArray) (t : Int) : Lit := .string (keyBytes [.string n.data.toList, .int .i64 t])
def kyV (n : ByteArray) (t : Int) : Value := .agg #[.string n, .int .i64 t]
theorem typesE : ∃ m, Try.prog.types.size = m + 1 := ⟨Try.prog.types.size - 1, by have : (1 : Nat) ≤ Try.prog.types.size := of_decide_eq_true (by kernel_rfl); omega⟩
theorem cellsE : Try.prog.cellsOf 73 = 2 := by kernel_rfl
theorem cellsE9 : Try.prog.cellsOf 9 = 1 := by kernel_rfl
theorem cellsE3 : Try.prog.cellsOf 3 = 1 := by kernel_rfl
theorem keyOf_e {n : ByteArray} {t : Int} (hn : n.size ≤ maxLen) (ht : (Lit.int .i64 t).wf = true) : keyOf Try.prog 73 (kyV n t) = some (kyL n t) := by
  obtain ⟨m, hm⟩ := typesE
  have hk : Try.prog.keyType 73 = true := by kernel_rfl
  unfold keyOf kyV
  rw [Try.underlying73]
  simp only [hk, Bool.true_and, Value.formed, Try.underlying73, cellsE]
  have h2 : (#[Value.string n, Value.int .i64 t].size == 2) = true := rfl
  rw [if_pos h2, hm]
  simp [Program.keyLits, Try.underlying73, Try.underlying9, Try.underlying3, cellsE, cellsE9, cellsE3, Value.cells, hn, ht, kyL]
theorem ky_inj {n n' : ByteArray} {t t' : Int} (hn : n.size ≤ maxLen) (hn' : n'.size ≤ maxLen) (ht : (Lit.int .i64 t).wf = true) (ht' : (Lit.int .i64 t').wf = true) (h : kyL n t = kyL n' t') : n = n' ∧ t = t' := by
  have h1 := keyOf_e (n := n) (t := t) hn ht
  have h2 := keyOf_e (n := n') (t := t') hn' ht'
  rw [← h] at h2
  have := keyE.inj h1 h2
  unfold kyV at this
  simp at this
  exact this

theorem isKyL (n : ByteArray) (t : Int) : WideAt.IsKeyLit (kyL n t) := by simp [WideAt.IsKeyLit, kyL]
theorem wf_ok {n : ByteArray} {t : Int} (h : OkK n t) : (Lit.int .i64 t).wf = true := WalkArith.wf_i64 (by have := h.lo; have := h.hi; omega)
theorem max_ok {n : ByteArray} {t : Int} (h : OkK n t) : n.size ≤ maxLen := by have := h.size; unfold maxLen; omega
theorem same_ky {e : En} (he : OkE e) {n : ByteArray} {t : Int} (hn : n.size ≤ maxLen) (ht : (Lit.int .i64 t).wf = true) : (kyL e.n e.t).sameKey (kyL n t) = sameK n t e := by
  cases h : sameK n t e with
  | true =>
    obtain ⟨rfl, rfl⟩ := sameK_iff.1 h
    exact WideAt.sameKey_self (isKyL _ _)
  | false =>
    refine Maps.sameKey_ne (fun e' => ?_)
    have := ky_inj (max_ok he.k) hn (wf_ok he.k) ht e'
    rw [sameK_iff.2 this] at h
    cases h

/-- A map's reading and the entries that are held, each with its row of texts. -/
def ents (L : List (En × Value)) : List (Lit × DataW Hc) := L.map fun p => (kyL p.1.n p.1.t, .held (hc p))
def MapOf (D : DataW Hc) (L : List (En × Value)) : Prop := ∃ es, D = .map es ∧ es.Perm (ents L)
def fstL (L : List (En × Value)) : List En := L.map Prod.fst
structure Good (L : List (En × Value)) : Prop where
  ok : ∀ p ∈ L, OkE p.1
  dis : Dis (fstL L)
theorem mapOf_nil : MapOf (.map []) [] := ⟨[], rfl, List.Perm.refl _⟩
theorem any_perm {α : Type} {f : α → Bool} {a b : List α} (h : a.Perm b) : a.any f = b.any f := by
  rw [Bool.eq_iff_iff, List.any_eq_true, List.any_eq_true]
  exact ⟨fun ⟨x, hx, hf⟩ => ⟨x, h.mem_iff.1 hx, hf⟩, fun ⟨x, hx, hf⟩ => ⟨x, h.mem_iff.2 hx, hf⟩⟩
theorem mapOf_size {D : DataW Hc} {L : List (En × Value)} (h : MapOf D L) : Maps.size D = L.length := by
  obtain ⟨es, rfl, hp⟩ := h
  rw [Maps.size_eq, hp.length_eq]; simp [ents]
theorem mapOf_has {D : DataW Hc} {L : List (En × Value)} (h : MapOf D L) (hg : Good L) {n : ByteArray} {t : Int} (hn : n.size ≤ maxLen) (ht : (Lit.int .i64 t).wf = true) : Maps.has D (kyL n t) = L.any (fun p => sameK n t p.1) := by
  obtain ⟨es, rfl, hp⟩ := h
  rw [Maps.has_eq, any_perm hp]
  unfold ents
  rw [List.any_map]
  rw [Bool.eq_iff_iff, List.any_eq_true, List.any_eq_true]
  constructor
  · rintro ⟨p, hp, hs⟩; exact ⟨p, hp, by rw [← same_ky (hg.ok p hp) hn ht]; exact hs⟩
  · rintro ⟨p, hp, hs⟩; exact ⟨p, hp, by show (kyL p.1.n p.1.t).sameKey (kyL n t) = true; rw [same_ky (hg.ok p hp) hn ht]; exact hs⟩
theorem Good.one {L : List (En × Value)} (hg : Good L) {p q : En × Value} (hp : p ∈ L) (hq : q ∈ L) (h : sameK p.1.n p.1.t q.1 = true) : p = q := by
  obtain ⟨i, hi, rfl⟩ := List.getElem_of_mem hp
  obtain ⟨j, hj, rfl⟩ := List.getElem_of_mem hq
  by_cases e : i = j
  · subst e; rfl
  · have h1 : i < (fstL L).length := by unfold fstL; simpa using hi
    have h2 : j < (fstL L).length := by unfold fstL; simpa using hj
    have := hg.dis.at h1 h2 e
    simp only [fstL, List.getElem_map] at this
    rw [this] at h
    cases h
theorem mapOf_at {D : DataW Hc} {L : List (En × Value)} (h : MapOf D L) (hg : Good L) {p : En × Value} (hp : p ∈ L) (z : DataW Hc) : D.atKey (kyL p.1.n p.1.t) z = .held (hc p) := by
  obtain ⟨es, rfl, hpm⟩ := h
  unfold DataW.atKey
  have hmem : ((kyL p.1.n p.1.t, DataW.held (hc p)) : Lit × DataW Hc) ∈ es := hpm.mem_iff.2 (List.mem_map.2 ⟨p, hp, rfl⟩)
  cases hf : es.find? (fun q => q.1.sameKey (kyL p.1.n p.1.t)) with
  | none =>
    have := List.find?_eq_none.1 hf _ hmem
    simp [WideAt.sameKey_self (isKyL p.1.n p.1.t)] at this
  | some q =>
    have h1 := List.find?_some hf
    have h2 := List.mem_of_find?_eq_some hf
    obtain ⟨q', hq', rfl⟩ := List.mem_map.1 (hpm.mem_iff.1 h2)
    have h3 : sameK p.1.n p.1.t q'.1 = true := by rw [← same_ky (hg.ok q' hq') (max_ok (hg.ok p hp).k) (wf_ok (hg.ok p hp).k)]; exact h1
    obtain rfl := hg.one hp hq' h3
    simp only [hf]
theorem Good.sub {L M : List (En × Value)} (h : Good L) (hs : M.Sublist L) : Good M := ⟨fun p hp => h.ok p (hs.subset hp), h.dis.sub (hs.map _)⟩
theorem Good.snoc {L : List (En × Value)} (h : Good L) {p : En × Value} (hp : OkE p.1) (hn : ∀ q ∈ L, sameK p.1.n p.1.t q.1 = false) : Good (L ++ [p]) := by
  refine ⟨fun q hq => ?_, ?_⟩
  · rcases List.mem_append.1 hq with hq | hq
    · exact h.ok q hq
    · simp at hq; subst hq; exact hp
  · unfold fstL
    rw [List.map_append]
    refine Dis.snoc h.dis (fun x hx => ?_)
    obtain ⟨q, hq, rfl⟩ := List.mem_map.1 hx
    exact hn q hq
theorem mapOf_del {D : DataW Hc} {L : List (En × Value)} (h : MapOf D L) (hg : Good L) {n : ByteArray} {t : Int} (hn : n.size ≤ maxLen) (ht : (Lit.int .i64 t).wf = true) : MapOf (D.del (kyL n t)) (L.filter fun p => !sameK n t p.1) := by
  obtain ⟨es, rfl, hp⟩ := h
  refine ⟨_, rfl, (hp.filter _).trans ?_⟩
  unfold ents
  rw [List.filter_map]
  refine List.Perm.of_eq (congrArg _ (List.filter_congr (fun p hp => ?_)))
  show (!(kyL p.1.n p.1.t).sameKey (kyL n t)) = _
  rw [same_ky (hg.ok p hp) hn ht]
theorem insert_perm (x : Lit × DataW Hc) : ∀ l, (DataW.insert x l).Perm (x :: l) := by
  intro l
  induction l with
  | nil => exact List.Perm.refl _
  | cons y l ih =>
    unfold DataW.insert
    split
    · exact List.Perm.refl _
    · exact ((ih.cons y).trans (List.Perm.swap x y l))
theorem mapOf_put {D : DataW Hc} {L : List (En × Value)} (h : MapOf D L) (hg : Good L) (p : En × Value) (hp : OkE p.1) (hn : ∀ q ∈ L, sameK p.1.n p.1.t q.1 = false) : MapOf (D.put (kyL p.1.n p.1.t) (.held (hc p))) (L ++ [p]) := by
  obtain ⟨es, rfl, hpm⟩ := h
  refine ⟨_, rfl, ?_⟩
  have hf : es.filter (fun q => !q.1.sameKey (kyL p.1.n p.1.t)) = es := List.filter_eq_self.2 (fun q hq => by
    obtain ⟨q', hq', rfl⟩ := List.mem_map.1 (hpm.mem_iff.1 hq)
    show (!(kyL q'.1.n q'.1.t).sameKey (kyL p.1.n p.1.t)) = true
    rw [same_ky (hg.ok q' hq') (max_ok hp.k) (wf_ok hp.k), hn q' hq']; rfl)
  rw [hf]
  refine (insert_perm _ _).trans ?_
  unfold ents
  rw [List.map_append]
  exact (hpm.cons _).trans (List.perm_append_singleton _ _).symm

/-- The entries of a map lie in memory. -/
structure Hold (w : World) (b : Nat) (L : List (En × Value)) : Prop where
  map : ∃ n D, w.ownsMap Try.prog 73 rE b n D ∧ MapOf D L
  good : Good L
  dat : ∀ p ∈ L, w.ownsRow 0 9 1 p.2 p.1.ds.length (tC p.1.ds)
theorem own_tight {w : World} {b n : Nat} {D : DataW Hc} (h : w.ownsMap Try.prog 73 rE b n D) : w.ownsMap Try.prog 73 rE b (Maps.size D) D := by
  obtain ⟨es, clock, hb, F, _, rfl⟩ := h
  exact ⟨es, clock, hb, F, by simp [Maps.size, length_sorted], rfl⟩
theorem own_turn {S : Nat → Prop} {w w' : World} {b n : Nat} {D : DataW Hc} (h : w.ownsMap Try.prog 73 rE b n D) (ht : Turn S w w') (hs : ¬ S b) : w'.ownsMap Try.prog 73 rE b n D := by
  have hlt := h.lt
  obtain ⟨es, clock, hb, F, hn, rfl⟩ := h
  exact ⟨es, clock, (ht.block b hlt hs).trans hb, F, hn, rfl⟩
/-- The blocks of a store. -/
def foot (gs : Nat) (mb : Option Nat) (L : List (En × Value)) (k : Nat) : Prop := k = gs ∨ mb = some k ∨ ∃ p ∈ L, p.2.ownBlock = some k
theorem Hold.turn {S : Nat → Prop} {w w' : World} {b : Nat} {L : List (En × Value)} (h : Hold w b L) (ht : Turn S w w') (hb : ¬ S b) (hL : ∀ p ∈ L, ∀ k, p.2.ownBlock = some k → ¬ S k) : Hold w' b L := by
  obtain ⟨n, D, ho, hm⟩ := h.map
  exact ⟨⟨n, D, own_turn ho ht hb, hm⟩, h.good, fun p hp => ht.row (h.dat p hp) (hL p hp)⟩
theorem Hold.own {w : World} {b : Nat} {L : List (En × Value)} (h : Hold w b L) : ∃ D, w.ownsMap Try.prog 73 rE b L.length D ∧ MapOf D L := by
  obtain ⟨n, D, ho, hm⟩ := h.map
  refine ⟨D, ?_, hm⟩
  have := own_tight ho
  rw [mapOf_size hm] at this
  exact this
def MapAt (w : World) (mb : Option Nat) (L : List (En × Value)) : Prop := (mb = none ∧ L = []) ∨ ∃ b, mb = some b ∧ Hold w b L
structure St (w : World) (gs most : Nat) (mb : Option Nat) (L : List (En × Value)) : Prop where
  blk : Blk w gs #[.int .i64 most, .map mb] 68
  m1 : 1 ≤ most
  m2 : most ≤ 256
  len : L.length ≤ most
  at' : MapAt w mb L
theorem MapAt.good {w : World} {mb : Option Nat} {L : List (En × Value)} (h : MapAt w mb L) : Good L := by
  rcases h with ⟨_, rfl⟩ | ⟨b, _, h⟩
  · exact ⟨fun p hp => by simp at hp, List.Pairwise.nil⟩
  · exact h.good
theorem MapAt.turn {S : Nat → Prop} {w w' : World} {mb : Option Nat} {L : List (En × Value)} (h : MapAt w mb L) (ht : Turn S w w') (hb : ∀ b, mb = some b → ¬ S b) (hL : ∀ p ∈ L, ∀ k, p.2.ownBlock = some k → ¬ S k) : MapAt w' mb L :=
  h.imp id (fun ⟨b, e, hh⟩ => ⟨b, e, hh.turn ht (hb b e) hL⟩)
theorem MapAt.below {w w' : World} {mb : Option Nat} {L : List (En × Value)} (h : MapAt w mb L) (hb : Below w.heap.size w w') : MapAt w' mb L := h.turn (Turn.of_below (S := fun _ => False) hb) (fun _ _ => id) (fun _ _ _ _ => id)
theorem St.turn {S : Nat → Prop} {w w' : World} {gs most : Nat} {mb : Option Nat} {L : List (En × Value)} (h : St w gs most mb L) (ht : Turn S w w') (hs : ∀ k, foot gs mb L k → ¬ S k) : St w' gs most mb L :=
  ⟨ht.blk h.blk (hs gs (.inl rfl)), h.m1, h.m2, h.len, h.at'.turn ht (fun b e => hs b (.inr (.inl e))) (fun p hp k hk => hs k (.inr (.inr ⟨p, hp, hk⟩)))⟩
theorem St.below {w w' : World} {gs most : Nat} {mb : Option Nat} {L : List (En × Value)} (h : St w gs most mb L) (hb : Below w.heap.size w w') : St w' gs most mb L := h.turn (Turn.of_below (S := fun _ => False) hb) (fun _ _ => id)
theorem St.lt {w : World} {gs most : Nat} {mb : Option Nat} {L : List (En × Value)} (h : St w gs most mb L) : ∀ k, foot gs mb L k → k < w.heap.size := by
  rintro k (rfl | e | ⟨p, hp, e⟩)
  · exact h.blk.lt
  · rcases h.at' with ⟨e', _⟩ | ⟨b, e', hh⟩
    · rw [e'] at e; cases e
    · rw [e'] at e; cases e
      obtain ⟨n, D, ho, _⟩ := hh.map
      exact ho.lt
  · rcases h.at' with ⟨_, rfl⟩ | ⟨b, e', hh⟩
    · simp at hp
    · exact ((hh.dat p hp).lt k e).2

/-- What is told of a name and a type. -/
def eZ : Value := .agg #[.string ⟨#[]⟩, .int .i64 0, .int .i64 0, .slice none 0 0, .int .i64 0, .int .i64 0]
theorem zeroE (w : World) : (zeroValue 36).run Try.prog w = .ok eZ w := Try.zeroValue36 w
def atL (L : List (En × Value)) (n : ByteArray) (t : Int) : Option (En × Value) := L.find? fun p => sameK n t p.1
def vL (L : List (En × Value)) (n : ByteArray) (t : Int) : Value := match atL L n t with | some p => eA p.1 p.2 | none => eZ
def bL (L : List (En × Value)) (n : ByteArray) (t : Int) : Bool := (atL L n t).isSome
theorem atL_some {L : List (En × Value)} {n : ByteArray} {t : Int} {p : En × Value} (h : atL L n t = some p) : p ∈ L ∧ p.1.n = n ∧ p.1.t = t := by
  unfold atL at h
  exact ⟨List.mem_of_find?_eq_some h, sameK_iff.1 (by simpa using List.find?_some h)⟩
theorem atL_none {L : List (En × Value)} {n : ByteArray} {t : Int} (h : atL L n t = none) : ∀ p ∈ L, sameK n t p.1 = false := by
  unfold atL at h
  intro p hp
  simpa using List.find?_eq_none.1 h p hp
theorem atL_mem {L : List (En × Value)} (hg : Good L) {p : En × Value} (hp : p ∈ L) : atL L p.1.n p.1.t = some p := by
  cases h : atL L p.1.n p.1.t with
  | none => have := atL_none h p hp; rw [sameK_iff.2 ⟨rfl, rfl⟩] at this; cases this
  | some q =>
    obtain ⟨h1, h2, h3⟩ := atL_some h
    rw [hg.one hp h1 (sameK_iff.2 ⟨h2, h3⟩)]
theorem MapAt.look {w : World} {mb : Option Nat} {L : List (En × Value)} (h : MapAt w mb L) {n : ByteArray} {t : Int} (hn : n.size ≤ maxLen) (ht : (Lit.int .i64 t).wf = true) :
    (Instr.lookup 66 (.map mb) (kyV n t) true).run Try.prog w = .ok (.tuple #[vL L n t, .bool (bL L n t)]) w := by
  rcases h with ⟨rfl, rfl⟩ | ⟨b, rfl, hh⟩
  · have := Maps.look_nil (P := Try.prog) (w := w) (t := 66) true keyE Try.underlying66 (zeroE w) (keyOf_e hn ht)
    exact this
  · obtain ⟨k, D, ho, hm⟩ := hh.map
    obtain ⟨v, ps, hrun, hv⟩ := ho.look_ok keyE Try.underlying66 (zeroE w) (zd := .held (⟨#[]⟩, 0, 0, .slice none 0 0, 0, 0)) (zp := []) rfl (keyOf_e hn ht)
    rw [hrun, mapOf_has hm hh.good hn ht]
    obtain ⟨c, rfl, hc⟩ := rE_inv hv
    cases ha : atL L n t with
    | none =>
      have hf : L.any (fun p => sameK n t p.1) = false := by
        rw [List.any_eq_false]
        intro p hp
        rw [atL_none ha p hp]; simp
      rw [hf]
      have hat := Maps.atKey_of_not_has (k := kyL n t) (D := D) (by rw [mapOf_has hm hh.good hn ht, hf]) (.held (⟨#[]⟩, 0, 0, .slice none 0 0, 0, 0))
      rw [hat] at hc
      cases hc
      unfold vL bL
      rw [ha]
      rfl
    | some p =>
      obtain ⟨h1, rfl, rfl⟩ := atL_some ha
      have hf : L.any (fun q => sameK p.1.n p.1.t q.1) = true := List.any_eq_true.2 ⟨p, h1, sameK_iff.2 ⟨rfl, rfl⟩⟩
      rw [hf]
      rw [mapOf_at hm hh.good h1] at hc
      cases hc
      unfold vL bL
      rw [ha]
      rfl
theorem MapAt.len {w : World} {mb : Option Nat} {L : List (En × Value)} (h : MapAt w mb L) (ty : TypeId) : (Builtin.len_ #[66] ty #[.map mb]).run Try.prog w = .ok (.int .i64 (L.length : Nat)) w := by
  rcases h with ⟨rfl, rfl⟩ | ⟨b, rfl, hh⟩
  · exact Maps.len_nil Try.underlying66 ty
  · obtain ⟨k, D, ho, hm⟩ := hh.map
    rw [ho.len Try.underlying66 ty, mapOf_size hm]

/-- A range over the map: one of its entries comes. -/
theorem rg_next {w : World} {b r n cnt : Nat} {D : DataW Hc} {left : Lit → Bool} {L : List (En × Value)} (h : w.ranges Try.prog 73 rE b r n D left cnt) (hm : MapOf D L) (hg : Good L) (ty : TypeId) :
    (cnt = 0 ∧ (∀ kl, left kl = false) ∧ (Instr.next (.pointer (some ⟨r, 0, none⟩)) false ty).run Try.prog w = .ok (.tuple #[.bool false]) w) ∨
    ∃ (p : En × Value) (w' : World) (cnt' : Nat), p ∈ L ∧ left (kyL p.1.n p.1.t) = true ∧ (Instr.next (.pointer (some ⟨r, 0, none⟩)) false ty).run Try.prog w = .ok (.tuple #[.bool true, kyV p.1.n p.1.t, eA p.1 p.2]) w' ∧
      w'.ranges Try.prog 73 rE b r n D (fun x => left x && !x.sameKey (kyL p.1.n p.1.t)) cnt' ∧ cnt' < cnt ∧ w.grownBy w' (some r) ∧ w'.heap.size = w.heap.size ∧ (Instr.entry (.pointer (some ⟨r, 0, none⟩))).run Try.prog w' = .ok (.tuple #[kyV p.1.n p.1.t, eA p.1 p.2]) w' := by
  rcases h.next keyE ty with h | ⟨key, v, kl, y, w', cnt', hkey, hlk, hv, hat, hrun, hrg, hlt, hgr, hsz, hen⟩
  · exact .inl h
  · have hh := Maps.has_true_of_atKey hat
    obtain ⟨es, rfl, hp⟩ := hm
    have hh2 := hh
    rw [Maps.has_eq, any_perm hp, List.any_eq_true] at hh2
    obtain ⟨q, hq, hs⟩ := hh2
    obtain ⟨p, hpL, rfl⟩ := List.mem_map.1 hq
    have hkl : kyL p.1.n p.1.t = kl := WideAt.sameKey_eq hs
    subst hkl
    have hk2 := keyOf_e (max_ok (hg.ok p hpL).k) (wf_ok (hg.ok p hpL).k)
    have : key = kyV p.1.n p.1.t := keyE.inj hkey hk2
    subst this
    have ha := mapOf_at (L := L) ⟨es, rfl, hp⟩ hg hpL (.nil)
    rw [hat] at ha
    obtain ⟨c, rfl, hc⟩ := rE_inv hv
    rw [hc] at ha
    cases ha
    exact .inr ⟨p, w', cnt', hpL, hlk, hrun, hrg, hlt, hgr, hsz, hen⟩
theorem wpList_next_e (w : World) {ops : Array Oper} {rest : List Oper} {o : Oper} {a : Act} {Q : Exit → Act → World → Prop} (hgd : o.guard = none) (it : Operand) (hop : o.op = Op.next it false) (b r n cnt : Nat) (D : DataW Hc) (left : Lit → Bool) (L : List (En × Value))
    (hit : a.eval it = .pointer (some ⟨r, 0, none⟩)) (h : w.ranges Try.prog 73 rE b r n D left cnt) (hm : MapOf D L) (hg : Good L)
    (hDone : cnt = 0 → (∀ kl, left kl = false) → wpList Try.prog ops Q rest (a.put o.dst (.tuple #[.bool false])) w)
    (hMore : ∀ (p : En × Value) (w' : World) (cnt' : Nat), p ∈ L → left (kyL p.1.n p.1.t) = true → w'.ranges Try.prog 73 rE b r n D (fun x => left x && !x.sameKey (kyL p.1.n p.1.t)) cnt' → cnt' < cnt → w.grownBy w' (some r) → w'.heap.size = w.heap.size →
      (Instr.entry (.pointer (some ⟨r, 0, none⟩))).run Try.prog w' = .ok (.tuple #[kyV p.1.n p.1.t, eA p.1 p.2]) w' → wpList Try.prog ops Q rest (a.put o.dst (.tuple #[.bool true, kyV p.1.n p.1.t, eA p.1 p.2])) w') :
    wpList Try.prog ops Q (o :: rest) a w := by
  refine wpList_plain hgd fun K' hK' => ?_
  unfold Oper.wp
  rcases rg_next h hm hg o.type with ⟨h0, hl, hrun⟩ | ⟨p, w', cnt', hp, hlk, hrun, hrg, hlt, hgr, hsz, hen⟩
  · simp [execOp, hop, hit, hrun, Result.andThen]
    exact hK' _ _ (hDone h0 hl)
  · simp [execOp, hop, hit, hrun, Result.andThen]
    exact hK' _ _ (hMore p w' cnt' hp hlk hrg hlt hgr hsz hen)

end Go.Proofs.Ytcmhjlflgedcdaa

/- Structs as a whole out of their blocks and into them. -/
namespace Go.Proofs.Ytcmhjlflgedcdaa
open Go.RowKit
open Pl

def structB (T : TypeId) : Prop := ∃ fs, Try.prog.underlying T = some (.struct fs)
theorem load_s {w : World} {g : Nat} {C : Array Value} {t : TypeId} (T : TypeId) (hg : Blk w g C t) (hu : structB T) (hs : (Try.prog.info? T).map (·.size) = some C.size) : (loadVar T ⟨g, 0, none⟩).run Try.prog w = .ok (.agg C) w := by
  obtain ⟨fs, hq⟩ := hu
  exact run_loadVar_row _ _ t T C (0, 0) _ hg hq rfl hs
theorem store_s {w : World} {g : Nat} {Z C : Array Value} {t : TypeId} (T : TypeId) (hg : Blk w g Z t) (hs : (Try.prog.info? T).map (·.size) = some C.size) (hZ : Z.size = C.size) (h1 : C.all (·.oneCell') = true) :
    ∃ w', (storeVar T ⟨g, 0, none⟩ (.agg C)).run Try.prog w = .ok () w' ∧ Blk w' g C t ∧ Turn (fun k => k = g) w w' ∧ w'.heap.size = w.heap.size ∧ w'.drawn = w.drawn :=
  ⟨_, run_storeVar_row _ _ t T Z C hg hs hZ h1, setRow_heap _ _ Z _ t (0, 0) hg, Turn.of_grown (row := some g) ⟨rfl, rfl, rfl, by simp, fun k _ hne => setRow_other _ _ _ _ (fun e => hne (by rw [e]))⟩ (fun k e => (Option.some.inj e).symm), by simp, rfl⟩
/-- A whole struct out of its block. -/
theorem wpList_loadS (w : World) {ops : Array Oper} {rest : List Oper} {o : Oper} {a : Act} {Q : Exit → Act → World → Prop} (hgd : o.guard = none) (x : Operand) (T : TypeId) (ho : o.op = .load T x) (g : Nat) (C : Array Value) (t : TypeId)
    (hx : a.eval x = .pointer (some ⟨g, 0, none⟩)) (hg : Blk w g C t) (hu : structB T) (hs : (Try.prog.info? T).map (·.size) = some C.size)
    (h : wpList Try.prog ops Q rest (a.put o.dst (.agg C)) w) : wpList Try.prog ops Q (o :: rest) a w := by
  refine wpList_plain hgd fun K hK => ?_
  have hr : (Instr.loadAt T (.pointer (some ⟨g, 0, none⟩))).run Try.prog w = .ok (.agg C) w := by
    simp only [Instr.loadAt, Instr.sureAddr, Sem.run_bind, Sem.run_pure, Result.andThen]
    exact load_s T hg hu hs
  unfold Oper.wp execOp
  simp only [ho, hx, Sem.run_bind, hr, Result.andThen_ok, Sem.run_pure]
  exact hK _ _ h
/-- A whole struct into its block. -/
theorem wpList_storeS (w : World) {ops : Array Oper} {rest : List Oper} {o : Oper} {a : Act} {Q : Exit → Act → World → Prop} (hgd : o.guard = none) (x y : Operand) (T : TypeId) (ho : o.op = .store T x y) (g : Nat) (Z C : Array Value) (t : TypeId)
    (hx : a.eval x = .pointer (some ⟨g, 0, none⟩)) (hy : a.eval y = .agg C) (hg : Blk w g Z t) (hs : (Try.prog.info? T).map (·.size) = some C.size) (hZ : Z.size = C.size) (h1 : C.all (·.oneCell') = true)
    (h : ∀ w', Blk w' g C t → Turn (fun k => k = g) w w' → w'.heap.size = w.heap.size → w'.drawn = w.drawn → wpList Try.prog ops Q rest (a.put o.dst undef) w') : wpList Try.prog ops Q (o :: rest) a w := by
  refine wpList_plain hgd fun K hK => ?_
  obtain ⟨w', hrun, hb, ht, hz, hd⟩ := store_s T hg hs hZ h1
  have hr : (Instr.storeAt T (.pointer (some ⟨g, 0, none⟩)) (.agg C)).run Try.prog w = .ok () w' := by
    simp only [Instr.storeAt, Instr.sureAddr, Sem.run_bind, Sem.run_pure, Result.andThen]
    exact hrun
  unfold Oper.wp execOp
  simp only [ho, hx, hy, Sem.run_bind, hr, Result.andThen_ok, Sem.run_pure]
  exact hK _ _ (h _ hb ht hz hd)
/-- The same in a region that draws its order. -/
theorem step_storeS (w : World) {ops : Array Oper} {o : Oper} {a : Act} {K : Act → World → Prop} {Q : Exit → Act → World → Prop} {E : Prop} (hgd : o.guard = none) (x y : Operand) (T : TypeId) (ho : o.op = .store T x y) (g : Nat) (Z C : Array Value) (t : TypeId)
    (hx : a.eval x = .pointer (some ⟨g, 0, none⟩)) (hy : a.eval y = .agg C) (hg : Blk w g Z t) (hs : (Try.prog.info? T).map (·.size) = some C.size) (hZ : Z.size = C.size) (h1 : C.all (·.oneCell') = true)
    (h : ∀ w', Blk w' g C t → Turn (fun k => k = g) w w' → w'.heap.size = w.heap.size → w'.drawn = w.drawn → K (a.put o.dst undef) w') : if Region.wanted o (yielded ops a.tmps) = true then Oper.wp Try.prog o a w K Q else E := by
  have hw : Region.wanted o (yielded ops a.tmps) = true := by simp [Region.wanted, hgd]
  rw [if_pos hw]
  obtain ⟨w', hrun, hb, ht, hz, hd⟩ := store_s T hg hs hZ h1
  have hr : (Instr.storeAt T (.pointer (some ⟨g, 0, none⟩)) (.agg C)).run Try.prog w = .ok () w' := by
    simp only [Instr.storeAt, Instr.sureAddr, Sem.run_bind, Sem.run_pure, Result.andThen]
    exact hrun
  unfold Oper.wp execOp
  simp only [ho, hx, hy, Sem.run_bind, hr, Result.andThen_ok, Sem.run_pure]
  exact h _ hb ht hz hd
/-- What a function hands back out of its result's block. -/
theorem ret_s {fn : Func} {p : Tmp} {T : TypeId} (hf : fn.results = #[.cell p T]) {tmps : Array Value} {w : World} {g : Nat} {C : Array Value} {t : TypeId} (hp : tmps.getD p undef = .pointer (some ⟨g, 0, none⟩)) (hg : Blk w g C t) (hu : structB T) (hs : (Try.prog.info? T).map (·.size) = some C.size) :
    (results fn tmps).run Try.prog w = .ok (.agg C) w := by
  have hl := load_s T hg hu hs
  rw [results_cell hf, hp]
  simp only [asAddr, Sem.run_pure, Result.andThen]
  exact hl
theorem ret_s1 {fn : Func} {p q : Tmp} {T : TypeId} (hf : fn.results = #[.cell p T, .tmp q]) {tmps : Array Value} {w : World} {g : Nat} {C : Array Value} {t : TypeId} {v : Value} (hp : tmps.getD p undef = .pointer (some ⟨g, 0, none⟩)) (hq : tmps.getD q undef = v) (hg : Blk w g C t) (hu : structB T) (hs : (Try.prog.info? T).map (·.size) = some C.size) :
    (results fn tmps).run Try.prog w = .ok (.tuple #[.agg C, v]) w := by
  have hl := load_s T hg hu hs
  have ha : (asAddr (tmps.getD p undef)).run Try.prog w = .ok ⟨g, 0, none⟩ w := by rw [hp]; simp only [asAddr, Sem.run_pure]
  rw [Array.getD_eq_getD_getElem?] at ha hq
  simp only [results, hf]
  simp [Sem.run_bind, Result.andThen]
  rw [ha]
  simp only
  rw [hl, hq]
theorem ret_s2 {fn : Func} {p q r : Tmp} {T : TypeId} (hf : fn.results = #[.cell p T, .tmp q, .tmp r]) {tmps : Array Value} {w : World} {g : Nat} {C : Array Value} {t : TypeId} {v u : Value} (hp : tmps.getD p undef = .pointer (some ⟨g, 0, none⟩)) (hq : tmps.getD q undef = v) (hr : tmps.getD r undef = u) (hg : Blk w g C t) (hu : structB T) (hs : (Try.prog.info? T).map (·.size) = some C.size) :
    (results fn tmps).run Try.prog w = .ok (.tuple #[.agg C, v, u]) w := by
  have hl := load_s T hg hu hs
  have ha : (asAddr (tmps.getD p undef)).run Try.prog w = .ok ⟨g, 0, none⟩ w := by rw [hp]; simp only [asAddr, Sem.run_pure]
  rw [Array.getD_eq_getD_getElem?] at ha hq hr
  simp only [results, hf]
  simp [Sem.run_bind, Result.andThen]
  rw [ha]
  simp only
  rw [hl, hq, hr]
theorem Turn.one_below {w a b : World} {g : Nat} (h : Turn (fun k => k = g) a b) (hb : Below w.heap.size w a) (hg : w.heap.size ≤ g) : Below w.heap.size w b := Turn.below hb h hb.size (fun i e => by rw [e]; exact hg)

end Go.Proofs.Ytcmhjlflgedcdaa

/- The store's small functions: isWrong, isLive, keyOf, order. -/
namespace Go.Proofs.Ytcmhjlflgedcdaa
open Go.RowKit
open Pl

theorem isLive_any (n : ByteArray) (t l r u now : Int) (d : Value) (w : World) (_hd : d.oneCell' = true) :
    Calls Try.prog 46 #[.agg #[.string n, .int .i64 t, .int .i64 l, d, .int .i64 r, .int .i64 u], .int .i64 now] w fun e w' => e = .returned (.bool (decide (now < u))) ∧ Below w.heap.size w w' := by
  go_enter Try.func46, Try.ntmps46
  go_wp2
  go_ret
  exact ⟨rfl, lay (Below.refl _ _) _⟩

theorem keyOf_any (n : ByteArray) (t : Int) (w : World) (hn : n.size ≤ maxLen) :
    Calls Try.prog 32 #[.string n, .int .i64 t] w fun e w' => e = .returned (kyV (fdB n) t) ∧ Below w.heap.size w w' := by
  unfold kyV fdB
  have hb : Below w.heap.size w (w.alloc (.cells #[.string ⟨#[]⟩, .int .i64 0] 73)) := lay (Below.refl _ _) _
  have hk := Blk.new w #[.string ⟨#[]⟩, .int .i64 0] 73
  go_enter Try.func32, Try.ntmps32
  go_wp2_with (first
    | (go_at_call 45; go_must (refine (fold_any _ _ hn).mono ?_); rintro e w1 ⟨rfl, b1⟩; replace hk := hk.below b1; replace hb := next hb b1)
    | (refine wpList_storeS _ rfl (.tmp 4) (.tmp 8) 73 rfl w.heap.size _ _ 73 rfl rfl hk (by kernel_rfl) rfl (by simp [Value.oneCell']) ?_; intro w2 k2 t2 _ _))
  refine bodyPost_ret (v := kyV (fdB n) t) (ret_s rfl rfl k2 ⟨_, Try.underlying73⟩ (by kernel_rfl)) rfl ⟨rfl, t2.one_below hb (Nat.le_refl _)⟩

/-- What order gives, what it lays and draws. -/
theorem order_d (a b : ByteArray) (s t : Int) (w : World) (ha : a.size ≤ maxLen) (hb : b.size ≤ maxLen) :
    Calls Try.prog 41 #[.agg #[.string a, .int .i64 s], .agg #[.string b, .int .i64 t]] w fun e w' => e = .returned (.int .i64 (cK a s b t)) ∧ Below w.heap.size w w' ∧ w.drawn ≤ w'.drawn := by
  have hbel : Below w.heap.size w ((w.alloc (.cells #[.string a, .int .i64 s] 73)).alloc (.cells #[.string b, .int .i64 t] 73)) := lay (lay (Below.refl _ _) _) _
  have k1 := (Blk.new w #[.string a, .int .i64 s] 73).alloc (.cells #[.string b, .int .i64 t] 73)
  have k2 := Blk.new (w.alloc (.cells #[.string a, .int .i64 s] 73)) #[.string b, .int .i64 t] 73
  have e2 : (w.alloc (.cells #[.string a, .int .i64 s] 73)).heap.size = w.heap.size + 1 := by simp
  rw [e2] at k2
  by_cases hz : cmpN a.data.toList b.data.toList = 0
  · have HC : Hid (cK a s b t = sgn s t) := by unfold Hid cK; rw [if_pos hz]
    have HZ : Hid (cmpN a.data.toList b.data.toList = 0) := hz
    clear hz
    have hcmp : ∀ u : World, Calls Try.prog 51 #[.string a, .string b] u fun e w' => e = .returned (.int .i64 0) ∧ Below u.heap.size u w' ∧ u.drawn ≤ w'.drawn := fun u => by have := compare_d a b u ha hb; rw [HZ.out] at this; exact this
    go_enter Try.func41, Try.ntmps41
    go_wp2_with (first
      | (go_at_call 51; go_must (refine (hcmp _).mono ?_); rintro e w1 ⟨rfl, b1, d1⟩; have c1 := (k1.below b1).cell 1; have c2 := (k2.below b1).cell 1; simp only [List.getElem?_toArray, List.getElem?_cons_succ, List.getElem?_cons_zero] at c1 c2)
      | (go_at_call 52; go_must (refine (cmpI_any _ _ _).mono ?_); rintro e w' ⟨rfl, hw⟩; obtain rfl := hw.symm))
    go_ret
    exact ⟨ret_int HC.out.symm, next hbel b1, d1⟩
  · have HC : Hid (cK a s b t = cmpN a.data.toList b.data.toList) := by unfold Hid cK; rw [if_neg hz]
    have hz2 : (cmpN a.data.toList b.data.toList != 0) = true := by simpa using hz
    clear hz
    go_enter Try.func41, Try.ntmps41
    go_wp2_with (go_at_call 51; go_must (refine (compare_d a b _ ha hb).mono ?_); rintro e w1 ⟨rfl, b1, d1⟩)
    go_ret
    exact ⟨ret_int HC.out.symm, next hbel b1, d1⟩

theorem isWrong_any (n : ByteArray) (t l r u now : Int) (y : Option Addr) (c k : Nat) (ds : List ByteArray) (w : World) (hn : n.size ≤ maxLen) (hk : k = ds.length) (b : Bool) (hb : mayE ⟨n, t, l, ds, r, u⟩ now = b) :
    Calls Try.prog 31 #[.agg #[.string n, .int .i64 t, .int .i64 l, .slice y k c, .int .i64 r, .int .i64 u], .int .i64 now] w fun e w' => e = .returned (.bool (!b)) ∧ Below w.heap.size w w' := by
  have hds : decide (ds ≠ []) = decide (¬ k = 0) := by rw [hk]; cases ds <;> simp
  have HB : Hid ((isName n.data.toList && decide (1 ≤ t) && decide (t ≤ 65535) && decide (¬ k = 0) && decide (1 ≤ r) && decide (r ≤ 3) && decide (now < u) && decide (0 ≤ now) && decide (now ≤ 1099511627776)) = b) := by
    unfold mayE at hb
    rw [hds] at hb
    exact hb
  clear hb hds hk
  cases h0 : isName n.data.toList with
  | false =>
    have hb0 : b = false := by have := HB.out; rw [h0] at this; simpa using this.symm
    subst hb0
    go_enter Try.func31, Try.ntmps31
    go_wp2_with (go_at_call 44; go_must (refine (may_as _ false _ hn h0).mono ?_); rintro e w' ⟨rfl, hw⟩; obtain rfl := hw.symm)
    go_ret
    exact ⟨rfl, lay (Below.refl _ _) _⟩
  | true =>
    by_cases c0 : t < 1
    · have hb0 : b = false := by have := HB.out; rw [show decide (1 ≤ t) = false from by simp; omega] at this; simp at this; exact this
      subst hb0
      go_enter Try.func31, Try.ntmps31
      go_wp2_with (go_at_call 44; go_must (refine (may_as _ true _ hn h0).mono ?_); rintro e w' ⟨rfl, hw⟩; obtain rfl := hw.symm)
      go_ret
      exact ⟨rfl, lay (Below.refl _ _) _⟩
    · have d0 : decide (t < 1) = false := by simp; omega
      by_cases c1 : 65535 < t
      · have hb0 : b = false := by have := HB.out; rw [show decide (t ≤ 65535) = false from by simp; omega] at this; simp at this; exact this
        subst hb0
        go_enter Try.func31, Try.ntmps31
        go_wp2_with (go_at_call 44; go_must (refine (may_as _ true _ hn h0).mono ?_); rintro e w' ⟨rfl, hw⟩; obtain rfl := hw.symm)
        go_ret
        exact ⟨rfl, lay (Below.refl _ _) _⟩
      · have d1 : decide (65535 < t) = false := by simp; omega
        by_cases c2 : k = 0
        · have hb0 : b = false := by have := HB.out; rw [show decide (¬ k = 0) = false from by simp; omega] at this; simp at this; exact this
          subst hb0
          subst c2
          go_enter Try.func31, Try.ntmps31
          go_wp2_with (go_at_call 44; go_must (refine (may_as _ true _ hn h0).mono ?_); rintro e w' ⟨rfl, hw⟩; obtain rfl := hw.symm)
          go_ret
          exact ⟨rfl, lay (Below.refl _ _) _⟩
        · have d2 : ((k : Int) == 0) = false := by simp; omega
          by_cases c3 : r < 1
          · have hb0 : b = false := by have := HB.out; rw [show decide (1 ≤ r) = false from by simp; omega] at this; simp at this; exact this
            subst hb0
            go_enter Try.func31, Try.ntmps31
            go_wp2_with (go_at_call 44; go_must (refine (may_as _ true _ hn h0).mono ?_); rintro e w' ⟨rfl, hw⟩; obtain rfl := hw.symm)
            go_ret
            exact ⟨rfl, lay (Below.refl _ _) _⟩
          · have d3 : decide (r < 1) = false := by simp; omega
            by_cases c4 : 3 < r
            · have hb0 : b = false := by have := HB.out; rw [show decide (r ≤ 3) = false from by simp; omega] at this; simp at this; exact this
              subst hb0
              go_enter Try.func31, Try.ntmps31
              go_wp2_with (go_at_call 44; go_must (refine (may_as _ true _ hn h0).mono ?_); rintro e w' ⟨rfl, hw⟩; obtain rfl := hw.symm)
              go_ret
              exact ⟨rfl, lay (Below.refl _ _) _⟩
            · have d4 : decide (3 < r) = false := by simp; omega
              by_cases c5 : u ≤ now
              · have hb0 : b = false := by have := HB.out; rw [show decide (now < u) = false from by simp; omega] at this; simp at this; exact this
                subst hb0
                go_enter Try.func31, Try.ntmps31
                go_wp2_with (go_at_call 44; go_must (refine (may_as _ true _ hn h0).mono ?_); rintro e w' ⟨rfl, hw⟩; obtain rfl := hw.symm)
                go_ret
                exact ⟨rfl, lay (Below.refl _ _) _⟩
              · have d5 : decide (u ≤ now) = false := by simp; omega
                by_cases c6 : now < 0
                · have hb0 : b = false := by have := HB.out; rw [show decide (0 ≤ now) = false from by simp; omega] at this; simp at this; exact this
                  subst hb0
                  go_enter Try.func31, Try.ntmps31
                  go_wp2_with (go_at_call 44; go_must (refine (may_as _ true _ hn h0).mono ?_); rintro e w' ⟨rfl, hw⟩; obtain rfl := hw.symm)
                  go_ret
                  exact ⟨rfl, lay (Below.refl _ _) _⟩
                · have d6 : decide (now < 0) = false := by simp; omega
                  by_cases c7 : 1099511627776 < now
                  · have hb0 : b = false := by have := HB.out; rw [show decide (now ≤ 1099511627776) = false from by simp; omega] at this; simp at this; exact this
                    subst hb0
                    go_enter Try.func31, Try.ntmps31
                    go_wp2_with (go_at_call 44; go_must (refine (may_as _ true _ hn h0).mono ?_); rintro e w' ⟨rfl, hw⟩; obtain rfl := hw.symm)
                    go_ret
                    exact ⟨rfl, lay (Below.refl _ _) _⟩
                  · have d7 : decide (1099511627776 < now) = false := by simp; omega
                    have hb0 : b = true := by have := HB.out; rw [h0] at this; rw [← this]; simp; omega
                    subst hb0
                    go_enter Try.func31, Try.ntmps31
                    go_wp2_with (go_at_call 44; go_must (refine (may_as _ true _ hn h0).mono ?_); rintro e w' ⟨rfl, hw⟩; obtain rfl := hw.symm)
                    go_ret
                    exact ⟨rfl, lay (Below.refl _ _) _⟩

end Go.Proofs.Ytcmhjlflgedcdaa

/- What copyOf of package store gives: a set in memory of its own. -/
namespace Go.Proofs.Ytcmhjlflgedcdaa
open Go.RowKit
open Pl

/-- The first j texts, and none. -/
def dTo (ds : List ByteArray) (j : Nat) : List ByteArray := ds.take j ++ List.replicate (ds.length - j) ⟨#[]⟩
theorem dTo_len {ds : List ByteArray} {j : Nat} (h : j ≤ ds.length) : (dTo ds j).length = ds.length := by
  unfold dTo; rw [List.length_append, List.length_take, List.length_replicate]; omega
theorem dTo_set {ds : List ByteArray} {j : Nat} (h : j < ds.length) : (dTo ds j).set j ds[j] = dTo ds (j + 1) := by
  have hl : (ds.take j).length = j := by rw [List.length_take]; omega
  unfold dTo
  rw [List.set_append_right _ _ (by omega), hl, Nat.sub_self, show ds.length - j = (ds.length - (j + 1)) + 1 from by omega, List.replicate_succ, List.set_cons_zero, List.take_succ_eq_append_getElem h, List.append_assoc]
  rfl
theorem dTo_all (ds : List ByteArray) : dTo ds ds.length = ds := by unfold dTo; rw [Nat.sub_self]; simp
theorem tC_set (ds : List ByteArray) (j : Nat) (s : ByteArray) : (tC ds).set j (.string s) = tC (ds.set j s) := by unfold tC; rw [List.map_set]
theorem made1 (n : Nat) : (madeCells (Value.string ⟨#[]⟩).cells (n * 1)).toList = tC (List.replicate n ⟨#[]⟩) := by
  apply List.ext_getElem?
  intro j
  unfold madeCells tC
  rw [Array.getElem?_toList, Array.getElem?_map, Array.getElem?_range, List.getElem?_map, List.getElem?_replicate]
  by_cases hj : j < n
  · rw [if_pos (by omega), if_pos hj]
    simp [Value.cells, Nat.mod_one]
  · rw [if_neg (by omega), if_neg hj]
    rfl

def sA (n : ByteArray) (t l : Int) (d : Value) : Array Value := #[.string n, .int .i64 t, .int .i64 l, d]
/-- How far copyOf is. -/
structure CO (w0 w : World) (n : ByteArray) (t l : Int) (v : Value) (g : Nat) (ds : List ByteArray) (j : Nat) : Prop where
  b1 : Blk w w0.heap.size (sA n t l v) 34
  b2 : Blk w (w0.heap.size + 1) (sA ⟨#[]⟩ 0 0 (.slice none 0 0)) 34
  row : w.ownsRow (w0.heap.size + 2) 9 1 (.slice (some ⟨g, 0, none⟩) ds.length ds.length) ds.length (tC (dTo ds j))
  src : Row w v ds.length (tC ds)
  bel : Below w0.heap.size w0 w
  old : Row w0 v ds.length (tC ds)
theorem CO.below {w0 w w' : World} {n : ByteArray} {t l : Int} {v : Value} {g : Nat} {ds : List ByteArray} {j : Nat} (h : CO w0 w n t l v g ds j) (hb : Below w.heap.size w w') : CO w0 w' n t l v g ds j :=
  ⟨h.b1.below hb, h.b2.below hb, own_past h.row hb, h.src.below hb, next h.bel hb, h.old⟩
theorem row_turned {w0 w : World} {v : Value} {k : Nat} {xs : List Value} (h : Row w0 v k xs) (hb : Below w0.heap.size w0 w) : Row w v k xs := h.below hb
theorem CO.set {w0 w : World} {n : ByteArray} {t l : Int} {v : Value} {g : Nat} {ds : List ByteArray} {j : Nat} (h : CO w0 w n t l v g ds j) (hj : j < ds.length) : CO w0 (w.setCell ⟨g, j, none⟩ (.string ds[j])) n t l v g ds (j + 1) := by
  have hlt := h.row.lt g rfl
  have hb : Below w0.heap.size w0 (w.setCell ⟨g, j, none⟩ (.string ds[j])) := h.bel.setCell (p := ⟨g, j, none⟩) (by show w0.heap.size ≤ g; omega) _
  refine ⟨h.b1.other (by omega) _ _, h.b2.other (by omega) _ _, ?_, h.old.below hb, hb, h.old⟩
  have := (h.row.stored j (.string ds[j])).1
  rw [tC_set, dTo_set hj] at this
  exact this

theorem co_start {w w1 w2 : World} {n : ByteArray} {t l : Int} {v : Value} {ds : List ByteArray} {N : Nat} (hN : N = ds.length) (k1 : Blk w1 w.heap.size #[.string n, .int .i64 t, .int .i64 l, v] 34) (k2 : Blk w1 (w.heap.size + 1) #[.string ⟨#[]⟩, .int .i64 0, .int .i64 0, .slice none 0 0] 34)
    (hb : Below w.heap.size w w1) (old : Row w v ds.length (tC ds)) {g : Nat} (own2 : w2.ownsRow (w.heap.size + 2) 9 1 (.slice (some ⟨g, 0, none⟩) N N) N (madeCells (Value.string ⟨#[]⟩).cells (N * 1)).toList)
    (grow2 : (w1.setCell ⟨w.heap.size, 0, none⟩ (.string n)).grownBy w2 none) : CO w w2 n t l v g ds 0 := by
  subst hN
  have hb2 := grown_below grow2
  have hb1 : Below w.heap.size w (w1.setCell ⟨w.heap.size, 0, none⟩ (.string n)) := hb.setCell (p := ⟨w.heap.size, 0, none⟩) (Nat.le_refl _) _
  have e : dTo ds 0 = List.replicate ds.length ⟨#[]⟩ := by unfold dTo; simp
  refine ⟨?_, (k2.other (by omega) _ _).below hb2, ?_, old.below (next hb1 hb2), next hb1 hb2, old⟩
  · have := (k1.set 0 (.string n)).below hb2
    exact this
  · rw [made1] at own2
    rw [e]
    exact own2

set_option maxRecDepth 20000 in
set_option maxHeartbeats 1000000 in
theorem copyOf_any (n : ByteArray) (t l : Int) (v : Value) (ds : List ByteArray) (w : World) (hn : n.size ≤ 140737488351232) (hr : Row w v ds.length (tC ds)) (h0 : 0 < ds.length) (hl : ds.length ≤ 8796093022000) (hs : ∀ d ∈ ds, d.size ≤ 140737488351232) :
    Calls Try.prog 38 #[.agg #[.string n, .int .i64 t, .int .i64 l, v]] w fun e w' => ∃ g, e = .returned (.agg #[.string n, .int .i64 t, .int .i64 l, .slice (some ⟨g, 0, none⟩) ds.length ds.length]) ∧
      w'.ownsRow w.heap.size 9 1 (.slice (some ⟨g, 0, none⟩) ds.length ds.length) ds.length (tC ds) ∧ w.heap.size ≤ g ∧ Below w.heap.size w w' := by
  obtain ⟨i0, hi, hz0, hz1, hz2⟩ := info_parts info9'
  obtain ⟨y, c, hv⟩ := row_slice hr
  have HOLD : Hid (Row w v ds.length (tC ds)) := hr
  obtain ⟨N, hN⟩ : ∃ N, N = ds.length := ⟨_, rfl⟩
  have HN : Hid (N = ds.length) := hN
  rw [← hN] at hv hl h0 ⊢
  have HS : Hid (∀ d ∈ ds, d.size ≤ 140737488351232) := hs
  have HV : Hid (v = .slice y N c) := hv
  have hb0 : Below w.heap.size w ((w.alloc (.cells (sA n t l v) 34)).alloc (.cells (sA ⟨#[]⟩ 0 0 (.slice none 0 0)) 34)) := lay (lay (Below.refl _ _) _) _
  have k1 := (Blk.new w (sA n t l v) 34).alloc (.cells (sA ⟨#[]⟩ 0 0 (.slice none 0 0)) 34)
  have k2 := Blk.new (w.alloc (.cells (sA n t l v) 34)) (sA ⟨#[]⟩ 0 0 (.slice none 0 0)) 34
  have e2 : (w.alloc (.cells (sA n t l v) 34)).heap.size = w.heap.size + 1 := by simp
  rw [e2] at k2
  subst hv
  unfold sA at hb0 k1 k2
  clear hN hr hs
  have t1 : True := trivial
  go_enter Try.func38, Try.ntmps38
  go_wp2_with (first
    | (go_at_call 47; have _t := t1; go_must (refine (clone_far n _ (by omega)).mono ?_); rintro e w1 ⟨rfl, b1⟩; replace k1 := k1.below b1; replace k2 := k2.below b1; replace hb0 := next hb0 b1; clear t1 b1; have c0 := k1.cell 0; have c3 := k1.cell 3; have f0 := k1.frozen 0; simp only [List.getElem?_toArray, List.getElem?_cons_succ, List.getElem?_cons_zero] at c0 c3)
    | (at_make; refine wpList_make_full _ rfl _ _ 32 rfl (w.heap.size + 2) 9 i0 (.string ⟨#[]⟩) 1 Try.underlying32 hi hz0 hz1 .i64 .i64 _ _ N rfl rfl rfl rfl (by rw [hz2]; omega) (by unfold maxLen; omega) (by have := k2.lt; simp; omega) ?_; intro w2 own2 grow2; have HCO : Hid (CO w w2 n t l (.slice y N c) _ ds 0) := co_start HN.out k1 k2 hb0 HOLD.out own2 grow2; generalize hgg : (w1.setCell ⟨w.heap.size, 0, none⟩ (.string n)).heap.size = g at HCO ⊢; clear own2 grow2 k1 k2 hb0 c0 c3 f0 hgg; have c3 := HCO.out.b1.cell 3; simp only [sA, List.getElem?_toArray, List.getElem?_cons_succ, List.getElem?_cons_zero] at c3))
  go_loopw [17] (fun i wr => ∃ j : Nat, j ≤ N ∧ i = .int .i64 (j : Int) ∧ Hid (CO w wr n t l (.slice y N c) g ds j)) (fun i _ => N - (intOf i).toNat)
  case atStart => exact ⟨0, Nat.zero_le _, rfl, HCO⟩
  case round =>
    obtain ⟨j, hj, rfl, HC⟩ := hrel
    clear HCO c3
    by_cases hjn : j < N
    · have hjd : j < ds.length := by rw [← HN.out]; exact hjn
      obtain ⟨s, hs⟩ : ∃ s, s = ds[j] := ⟨_, rfl⟩
      have hss : s.size ≤ 140737488351232 := by rw [hs]; exact HS.out _ (List.getElem_mem _)
      have hsrc := HC.out.src
      rw [← HN.out] at hsrc
      obtain ⟨ga, oa, ca, ev, hcell⟩ := row_at hsrc (by omega)
      simp only [Value.slice.injEq, true_and] at ev
      obtain ⟨rfl, rfl⟩ := ev
      have d1 := hcell j (.string s) (by rw [hs]; exact tC_at hjd)
      have HJ : Hid (∀ wn, CO w wn n t l (.slice (some ⟨ga, oa, none⟩) N c) g ds j → CO w (wn.setCell ⟨g, j, none⟩ (.string s)) n t l (.slice (some ⟨ga, oa, none⟩) N c) g ds (j + 1)) := fun wn h => by rw [hs]; exact h.set hjd
      clear hs hjd hsrc hcell
      go_wp2_with (go_at_call 47; go_must (refine (clone_far s _ (by omega)).mono ?_); rintro e w3 ⟨rfl, b3⟩; have HC3 : Hid (CO w w3 n t l (.slice (some ⟨ga, oa, none⟩) N c) g ds j) := HC.out.below b3; have ro := HC3.out.row; rw [← HN.out] at ro; have cj := ro.cellAt j (by omega); have fj := ro.frozenAt j; rw [List.getElem?_eq_getElem (by rw [tC_len, dTo_len (by rw [← HN.out]; omega), ← HN.out]; omega)] at cj; clear ro b3)
      go_roundw
      case rel => exact ⟨j + 1, by omega, by go_num, HJ.out _ HC3.out⟩
      case measure => simp [intOf]; omega
    · have hjn' : decide (j < N) = false := by simpa using hjn
      have HE : Hid (CO w wr n t l (.slice y N c) g ds ds.length) := by rw [← HN.out, show N = j from by omega]; rw [show N = j from by omega] at HC; exact HC
      clear HC
      have f3 := HE.out.b1.frozen 3
      have c3 := HE.out.b1.cell 3
      simp only [sA, List.getElem?_toArray, List.getElem?_cons_succ, List.getElem?_cons_zero] at c3
      have k1 : Blk (wr.setCell ⟨w.heap.size, 3, none⟩ (.slice (some ⟨g, 0, none⟩) N N)) w.heap.size #[.string n, .int .i64 t, .int .i64 l, .slice (some ⟨g, 0, none⟩) N N] 34 := HE.out.b1.set 3 _
      have k2 : Blk (wr.setCell ⟨w.heap.size, 3, none⟩ (.slice (some ⟨g, 0, none⟩) N N)) (w.heap.size + 1) #[.string ⟨#[]⟩, .int .i64 0, .int .i64 0, .slice none 0 0] 34 := HE.out.b2.other (by omega) _ _
      have HR : Hid ((wr.setCell ⟨w.heap.size, 3, none⟩ (.slice (some ⟨g, 0, none⟩) N N)).ownsRow (w.heap.size + 2) 9 1 (.slice (some ⟨g, 0, none⟩) N N) N (tC ds)) := by
        have := HE.out.row
        rw [dTo_all, ← HN.out] at this
        exact ownsRow_setCell_below this (a := ⟨w.heap.size, 3, none⟩) (by show w.heap.size < _; omega) _
      have HB : Hid (Below w.heap.size w (wr.setCell ⟨w.heap.size, 3, none⟩ (.slice (some ⟨g, 0, none⟩) N N))) := HE.out.bel.setCell (p := ⟨w.heap.size, 3, none⟩) (Nat.le_refl _) _
      clear HE
      go_wp2_with (first
        | (refine wpList_loadS _ rfl (.tmp 1) 34 rfl w.heap.size _ 34 rfl k1 ⟨_, Try.underlying34⟩ (by kernel_rfl) ?_)
        | (refine wpList_storeS _ rfl (.tmp 2) (.tmp 30) 34 rfl (w.heap.size + 1) _ _ 34 rfl rfl k2 (by kernel_rfl) rfl (by simp [Value.oneCell']) ?_; intro w5 k5 t5 _ _))
      have hlt := HR.out.lt g rfl
      refine bodyPost_ret (v := .agg #[.string n, .int .i64 t, .int .i64 l, .slice (some ⟨g, 0, none⟩) N N]) (ret_s rfl rfl k5 ⟨_, Try.underlying34⟩ (by kernel_rfl)) rfl ⟨g, rfl, ?_, by omega, t5.one_below HB.out (by omega)⟩
      exact t5.row (own_base HR.out (by omega)) (fun k hk e => by simp [Value.ownBlock] at hk; omega)

end Go.Proofs.Ytcmhjlflgedcdaa

/- What live gives: the entry of a name and a type, if it is live. -/
namespace Go.Proofs.Ytcmhjlflgedcdaa
open Go.RowKit
open Pl

def uL (L : List (En × Value)) (n : ByteArray) (t : Int) : Int := match atL L n t with | some p => p.1.u | none => 0
def lvB (L : List (En × Value)) (n : ByteArray) (t now : Int) : Bool := bL L n t && decide (now < uL L n t)
theorem MapAt.dat {w : World} {mb : Option Nat} {L : List (En × Value)} (h : MapAt w mb L) {p : En × Value} (hp : p ∈ L) : w.ownsRow 0 9 1 p.2 p.1.ds.length (tC p.1.ds) := by
  rcases h with ⟨_, rfl⟩ | ⟨b, _, h⟩
  · simp at hp
  · exact h.dat p hp
theorem MapAt.one {w : World} {mb : Option Nat} {L : List (En × Value)} (h : MapAt w mb L) {p : En × Value} (hp : p ∈ L) : p.2.oneCell' = true := by
  obtain ⟨y, c, e⟩ := row_shape (h.dat hp)
  rw [e]; rfl

set_option maxRecDepth 20000 in
set_option maxHeartbeats 1000000 in
theorem live_any {w : World} {gs most : Nat} {mb : Option Nat} {L : List (En × Value)} (h : St w gs most mb L) (n : ByteArray) (t now : Int) (hn : n.size ≤ maxLen) (ht : (Lit.int .i64 t).wf = true) :
    Calls Try.prog 33 #[.pointer (some ⟨gs, 0, none⟩), .agg #[.string n, .int .i64 t], .int .i64 now] w fun e w' => e = .returned (.tuple #[vL L n t, .bool (lvB L n t now)]) ∧ Below w.heap.size w w' := by
  cases ha : atL L n t with
  | none =>
    have e1 : vL L n t = eZ := by unfold vL; rw [ha]
    have e2 : bL L n t = false := by unfold bL; rw [ha]; rfl
    have e3 : lvB L n t now = false := by unfold lvB; rw [e2]; rfl
    rw [e1, e3]
    have hlk : ∀ u, MapAt u mb L → (Instr.lookup 66 (.map mb) (.agg #[.string n, .int .i64 t]) true).run Try.prog u = .ok (.tuple #[eZ, .bool false]) u := fun u hu => by have := hu.look hn ht; rw [e1, e2] at this; exact this
    unfold eZ at hlk ⊢
    clear e1 e2 e3 ha
    go_enter Try.func33, Try.ntmps33
    go_wp2
    obtain ⟨W, hW⟩ : ∃ W, W = (w.alloc (.cells #[.string n, .int .i64 t] 73)).alloc (.cells #[.string ⟨#[]⟩, .int .i64 0, .int .i64 0, .slice none 0 0, .int .i64 0, .int .i64 0] 36) := ⟨_, rfl⟩
    have hb : Below w.heap.size w W := by rw [hW]; exact lay (lay (Below.refl _ _) _) _
    have hs := h.below hb
    have k1 : Blk W w.heap.size #[.string n, .int .i64 t] 73 := by rw [hW]; exact (Blk.new w _ _).alloc _
    have k2 : Blk W (w.heap.size + 1) #[.string ⟨#[]⟩, .int .i64 0, .int .i64 0, .slice none 0 0, .int .i64 0, .int .i64 0] 36 := by rw [hW]; have := Blk.new (w.alloc (.cells #[.string n, .int .i64 t] 73)) #[.string ⟨#[]⟩, .int .i64 0, .int .i64 0, .slice none 0 0, .int .i64 0, .int .i64 0] 36; simpa using this
    have hws : W.heap.size = w.heap.size + 1 + 1 := by rw [hW]; simp
    rw [← hW]
    have c1 := hs.blk.cell 1
    have d0 := k1.cell 0
    have d1 := k1.cell 1
    simp only [List.getElem?_toArray, List.getElem?_cons_succ, List.getElem?_cons_zero] at c1 d0 d1
    have l1 := hlk W.drew (hs.at'.below ((Below.refl _ _).drew))
    have l2 : ∀ o, (Instr.lookup 66 (.map mb) (.agg #[.string n, .int .i64 t]) true).run Try.prog (W.alloc o).drew = _ := fun o => hlk _ (hs.at'.below (((Below.refl _ _).alloc (Nat.le_refl _) o).drew))
    have c1' : ∀ o, (W.alloc o).cell? ⟨gs, 1, none⟩ = some (.map mb) := fun o => (hs.blk.alloc o).cell 1
    have d0' : ∀ o, (W.alloc o).cell? ⟨w.heap.size, 0, none⟩ = some (.string n) := fun o => (k1.alloc o).cell 0
    have d1' : ∀ o, (W.alloc o).cell? ⟨w.heap.size, 1, none⟩ = some (.int .i64 t) := fun o => (k1.alloc o).cell 1
    clear hlk hW hs
    go_region
    obtain ⟨X, hX⟩ : ∃ X, X = (W.alloc (.cells #[.string ⟨#[]⟩, .int .i64 0, .int .i64 0, .slice none 0 0, .int .i64 0, .int .i64 0] 36)).drew := ⟨_, rfl⟩
    rw [← hX]
    have hbx : Below w.heap.size w X := by rw [hX]; exact (hb.alloc hb.size _).drew
    have j1 : Blk X W.heap.size #[.string ⟨#[]⟩, .int .i64 0, .int .i64 0, .slice none 0 0, .int .i64 0, .int .i64 0] 36 := by rw [hX]; exact Blk.new W _ _
    have j2 : Blk X (w.heap.size + 1) #[.string ⟨#[]⟩, .int .i64 0, .int .i64 0, .slice none 0 0, .int .i64 0, .int .i64 0] 36 := by rw [hX]; exact k2.alloc _
    rw [hws] at j1
    clear hX c1 d0 d1 l1 l2 c1' d0' d1' k1 k2 hb hws
    go_wp2
    refine wp_region_held_drew (S := fun u => Blk u (w.heap.size + 1 + 1) #[.string ⟨#[]⟩, .int .i64 0, .int .i64 0, .slice none 0 0, .int .i64 0, .int .i64 0] 36) (by kernel_rfl) (j1.drew ⟨1, rfl⟩) (fun hHeld => ?_)
    refine wpAnyH_take (i := 0) (v := .agg #[.string ⟨#[]⟩, .int .i64 0, .int .i64 0, .slice none 0 0, .int .i64 0, .int .i64 0]) rfl (by kernel_rfl) (by kernel_rfl) (by kernel_rfl) (fun _ _ _ h => h) (Or.inl ⟨by rfl, ?_⟩) hHeld ?_
    · intro u u1
      have a0 := u1.cell 0; have a1 := u1.cell 1; have a2 := u1.cell 2; have a3 := u1.cell 3; have a4 := u1.cell 4; have a5 := u1.cell 5; simp only [List.getElem?_toArray, List.getElem?_cons_succ, List.getElem?_cons_zero] at a0 a1 a2 a3 a4 a5
      go_simp
    simp only [Act.put, List.getElem_toArray, List.getElem_cons_zero, List.setIfInBounds_toArray, List.set_cons_zero, List.set_cons_succ]
    refine wpAnyH_take (i := 1) (v := .bool false) rfl (by kernel_rfl) (by kernel_rfl) (by kernel_rfl) (fun _ _ _ h => h) (Or.inl ⟨by rfl, ?_⟩) hHeld ?_
    · intro u u1
      go_simp
    simp only [Act.put, List.getElem_toArray, List.getElem_cons_succ, List.getElem_cons_zero, List.setIfInBounds_toArray, List.set_cons_zero, List.set_cons_succ]
    refine wpAnyH_take (i := 2) (v := .bool false) rfl (by kernel_rfl) (by kernel_rfl) (by kernel_rfl) (fun _ _ _ h => h) (Or.inl ⟨by rfl, ?_⟩) hHeld ?_
    · intro u u1
      go_simp
    simp only [Act.put, List.getElem_toArray, List.getElem_cons_succ, List.getElem_cons_zero, List.setIfInBounds_toArray, List.set_cons_zero, List.set_cons_succ]
    have hbx5 := hbx.drew
    have i2 := j2.drew ⟨1, rfl⟩
    refine wpAnyH_take (i := 3) (v := undef) rfl (by kernel_rfl) (by kernel_rfl) (by kernel_rfl) (fun _ _ _ h => h) (Or.inr ⟨by rfl, rfl⟩) hHeld ?_
    simp only [Act.put, List.getElem_toArray, List.getElem_cons_succ, List.getElem_cons_zero, List.setIfInBounds_toArray, List.set_cons_zero, List.set_cons_succ]
    refine wpAnyH_take (i := 4) (v := undef) rfl (by kernel_rfl) (by kernel_rfl) (by kernel_rfl) (fun _ _ _ h => h) (Or.inr ⟨by rfl, rfl⟩) hHeld ?_
    simp only [Act.put, List.getElem_toArray, List.getElem_cons_succ, List.getElem_cons_zero, List.setIfInBounds_toArray, List.set_cons_zero, List.set_cons_succ]
    refine wpAnyH_take (i := 5) (v := undef) rfl (by kernel_rfl) (by kernel_rfl) (by kernel_rfl) (fun _ _ _ h => h) (Or.inr ⟨by rfl, rfl⟩) hHeld ?_
    simp only [Act.put, List.getElem_toArray, List.getElem_cons_succ, List.getElem_cons_zero, List.setIfInBounds_toArray, List.set_cons_zero, List.set_cons_succ]
    refine wpAnyH_take (i := 6) (v := .bool false) rfl (by kernel_rfl) (by kernel_rfl) (by kernel_rfl) (fun _ _ _ h => h) (Or.inl ⟨by rfl, ?_⟩) hHeld ?_
    · intro u u1
      go_simp
    simp only [Act.put, List.getElem_toArray, List.getElem_cons_succ, List.getElem_cons_zero, List.setIfInBounds_toArray, List.set_cons_zero, List.set_cons_succ]
    refine wpAnyH_ready (rs := [7]) (by kernel_rfl) (by simp) ?_
    refine AllReadyH.cons rfl (fun K hK => ?_) AllReadyH.nil
    refine step_storeS _ rfl (.tmp 6) (.tmp 19) 36 rfl (w.heap.size + 1) _ _ 36 rfl rfl i2 (by kernel_rfl) rfl (by simp [Value.oneCell']) ?_
    intro w6 i6 t6 _ _
    have hb6 := t6.one_below hbx5 (by omega)
    have i7 := t6.blk hHeld (by omega)
    go_simp
    refine hK.out _ _ i7 (fun hHeld => ?_)
    refine wpAnyH_take (i := 8) (v := .bool false) rfl (by kernel_rfl) (by kernel_rfl) (by kernel_rfl) (fun _ _ _ h => h) (Or.inl ⟨by rfl, ?_⟩) hHeld ?_
    · intro u u1
      go_simp
    simp only [Act.put, List.getElem_toArray, List.getElem_cons_succ, List.getElem_cons_zero, List.setIfInBounds_toArray, List.set_cons_zero, List.set_cons_succ]
    refine wpAnyH_done (by kernel_rfl) ?_ _
    go_wp2
    exact bodyPost_ret (ret_s1 rfl rfl rfl i6 ⟨_, Try.underlying36⟩ (by kernel_rfl)) rfl ⟨rfl, hb6⟩
  | some p =>
    have e1 : vL L n t = eA p.1 p.2 := by unfold vL; rw [ha]
    have e2 : bL L n t = true := by unfold bL; rw [ha]; rfl
    have e3 : lvB L n t now = decide (now < p.1.u) := by unfold lvB uL; rw [e2, ha]; rfl
    obtain ⟨py, pc, hpd⟩ := row_shape (h.at'.dat (atL_some ha).1)
    generalize p.1.ds.length = pk at hpd
    rw [e1, e3]
    have hlk : ∀ u, MapAt u mb L → (Instr.lookup 66 (.map mb) (.agg #[.string n, .int .i64 t]) true).run Try.prog u = .ok (.tuple #[eA p.1 p.2, .bool true]) u := fun u hu => by have := hu.look hn ht; rw [e1, e2] at this; exact this
    unfold eA at hlk ⊢
    clear e1 e2 e3 ha
    obtain ⟨⟨pn, pt, pl, pds, pr, pu⟩, pd⟩ := p
    simp only at hlk hpd ⊢
    subst hpd
    go_enter Try.func33, Try.ntmps33
    go_wp2
    obtain ⟨W, hW⟩ : ∃ W, W = (w.alloc (.cells #[.string n, .int .i64 t] 73)).alloc (.cells #[.string ⟨#[]⟩, .int .i64 0, .int .i64 0, .slice none 0 0, .int .i64 0, .int .i64 0] 36) := ⟨_, rfl⟩
    have hb : Below w.heap.size w W := by rw [hW]; exact lay (lay (Below.refl _ _) _) _
    have hs := h.below hb
    have k1 : Blk W w.heap.size #[.string n, .int .i64 t] 73 := by rw [hW]; exact (Blk.new w _ _).alloc _
    have k2 : Blk W (w.heap.size + 1) #[.string ⟨#[]⟩, .int .i64 0, .int .i64 0, .slice none 0 0, .int .i64 0, .int .i64 0] 36 := by rw [hW]; have := Blk.new (w.alloc (.cells #[.string n, .int .i64 t] 73)) #[.string ⟨#[]⟩, .int .i64 0, .int .i64 0, .slice none 0 0, .int .i64 0, .int .i64 0] 36; simpa using this
    have hws : W.heap.size = w.heap.size + 1 + 1 := by rw [hW]; simp
    rw [← hW]
    have c1 := hs.blk.cell 1
    have d0 := k1.cell 0
    have d1 := k1.cell 1
    simp only [List.getElem?_toArray, List.getElem?_cons_succ, List.getElem?_cons_zero] at c1 d0 d1
    have l1 := hlk W.drew (hs.at'.below ((Below.refl _ _).drew))
    have l2 : ∀ o, (Instr.lookup 66 (.map mb) (.agg #[.string n, .int .i64 t]) true).run Try.prog (W.alloc o).drew = _ := fun o => hlk _ (hs.at'.below (((Below.refl _ _).alloc (Nat.le_refl _) o).drew))
    have c1' : ∀ o, (W.alloc o).cell? ⟨gs, 1, none⟩ = some (.map mb) := fun o => (hs.blk.alloc o).cell 1
    have d0' : ∀ o, (W.alloc o).cell? ⟨w.heap.size, 0, none⟩ = some (.string n) := fun o => (k1.alloc o).cell 0
    have d1' : ∀ o, (W.alloc o).cell? ⟨w.heap.size, 1, none⟩ = some (.int .i64 t) := fun o => (k1.alloc o).cell 1
    clear hlk hW hs
    go_region
    obtain ⟨X, hX⟩ : ∃ X, X = (W.alloc (.cells #[.string pn, .int .i64 pt, .int .i64 pl, .slice py pk pc, .int .i64 pr, .int .i64 pu] 36)).drew := ⟨_, rfl⟩
    rw [← hX]
    have hbx : Below w.heap.size w X := by rw [hX]; exact (hb.alloc hb.size _).drew
    have j1 : Blk X W.heap.size #[.string pn, .int .i64 pt, .int .i64 pl, .slice py pk pc, .int .i64 pr, .int .i64 pu] 36 := by rw [hX]; exact Blk.new W _ _
    have j2 : Blk X (w.heap.size + 1) #[.string ⟨#[]⟩, .int .i64 0, .int .i64 0, .slice none 0 0, .int .i64 0, .int .i64 0] 36 := by rw [hX]; exact k2.alloc _
    rw [hws] at j1
    clear hX c1 d0 d1 l1 l2 c1' d0' d1' k1 k2 hb hws
    go_wp2
    refine wp_region_held_drew (S := fun u => Blk u (w.heap.size + 1 + 1) #[.string pn, .int .i64 pt, .int .i64 pl, .slice py pk pc, .int .i64 pr, .int .i64 pu] 36) (by kernel_rfl) (j1.drew ⟨1, rfl⟩) (fun hHeld => ?_)
    refine wpAnyH_take (i := 0) (v := .agg #[.string pn, .int .i64 pt, .int .i64 pl, .slice py pk pc, .int .i64 pr, .int .i64 pu]) rfl (by kernel_rfl) (by kernel_rfl) (by kernel_rfl) (fun _ _ _ h => h) (Or.inl ⟨by rfl, ?_⟩) hHeld ?_
    · intro u u1
      have a0 := u1.cell 0; have a1 := u1.cell 1; have a2 := u1.cell 2; have a3 := u1.cell 3; have a4 := u1.cell 4; have a5 := u1.cell 5; simp only [List.getElem?_toArray, List.getElem?_cons_succ, List.getElem?_cons_zero] at a0 a1 a2 a3 a4 a5
      go_simp
    simp only [Act.put, List.getElem_toArray, List.getElem_cons_zero, List.setIfInBounds_toArray, List.set_cons_zero, List.set_cons_succ]
    refine wpAnyH_take (i := 1) (v := .bool true) rfl (by kernel_rfl) (by kernel_rfl) (by kernel_rfl) (fun _ _ _ h => h) (Or.inl ⟨by rfl, ?_⟩) hHeld ?_
    · intro u u1
      go_simp
    simp only [Act.put, List.getElem_toArray, List.getElem_cons_succ, List.getElem_cons_zero, List.setIfInBounds_toArray, List.set_cons_zero, List.set_cons_succ]
    refine wpAnyH_take (i := 2) (v := .bool true) rfl (by kernel_rfl) (by kernel_rfl) (by kernel_rfl) (fun _ _ _ h => h) (Or.inl ⟨by rfl, ?_⟩) hHeld ?_
    · intro u u1
      go_simp
    simp only [Act.put, List.getElem_toArray, List.getElem_cons_succ, List.getElem_cons_zero, List.setIfInBounds_toArray, List.set_cons_zero, List.set_cons_succ]
    refine wpAnyH_take (i := 3) (v := .agg #[.string pn, .int .i64 pt, .int .i64 pl, .slice py pk pc, .int .i64 pr, .int .i64 pu]) rfl (by kernel_rfl) (by kernel_rfl) (by kernel_rfl) (fun _ _ _ h => h) (Or.inl ⟨by rfl, ?_⟩) hHeld ?_
    · intro u u1
      have a0 := u1.cell 0; have a1 := u1.cell 1; have a2 := u1.cell 2; have a3 := u1.cell 3; have a4 := u1.cell 4; have a5 := u1.cell 5; simp only [List.getElem?_toArray, List.getElem?_cons_succ, List.getElem?_cons_zero] at a0 a1 a2 a3 a4 a5
      go_simp
    simp only [Act.put, List.getElem_toArray, List.getElem_cons_succ, List.getElem_cons_zero, List.setIfInBounds_toArray, List.set_cons_zero, List.set_cons_succ]
    refine wpAnyH_take (i := 4) (v := .int .i64 now) rfl (by kernel_rfl) (by kernel_rfl) (by kernel_rfl) (fun _ _ _ h => h) (Or.inl ⟨by rfl, ?_⟩) hHeld ?_
    · intro u u1
      go_simp
    simp only [Act.put, List.getElem_toArray, List.getElem_cons_succ, List.getElem_cons_zero, List.setIfInBounds_toArray, List.set_cons_zero, List.set_cons_succ]
    refine wpAnyH_ready (rs := [5]) (by kernel_rfl) (by simp) ?_
    refine AllReadyH.cons rfl (fun K hK => ?_) AllReadyH.nil
    go_simp
    refine (isLive_any pn pt pl pr pu now (.slice py pk pc) _ rfl).mono ?_
    rintro e w5 ⟨rfl, b5⟩
    have hbx5 := next (hbx.drew) b5
    have i1 := hHeld.below b5
    have i2 := (j2.drew ⟨1, rfl⟩).below b5
    clear hHeld hbx b5
    go_simp
    refine hK.out _ _ i1 (fun hHeld => ?_)
    refine wpAnyH_take (i := 6) (v := .bool (decide (now < pu))) rfl (by kernel_rfl) (by kernel_rfl) (by kernel_rfl) (fun _ _ _ h => h) (Or.inl ⟨by rfl, ?_⟩) hHeld ?_
    · intro u u1
      go_simp
    simp only [Act.put, List.getElem_toArray, List.getElem_cons_succ, List.getElem_cons_zero, List.setIfInBounds_toArray, List.set_cons_zero, List.set_cons_succ]
    refine wpAnyH_ready (rs := [7]) (by kernel_rfl) (by simp) ?_
    refine AllReadyH.cons rfl (fun K hK => ?_) AllReadyH.nil
    refine step_storeS _ rfl (.tmp 6) (.tmp 19) 36 rfl (w.heap.size + 1) _ _ 36 rfl rfl i2 (by kernel_rfl) rfl (by simp [Value.oneCell']) ?_
    intro w6 i6 t6 _ _
    have hb6 := t6.one_below hbx5 (by omega)
    have i7 := t6.blk hHeld (by omega)
    go_simp
    refine hK.out _ _ i7 (fun hHeld => ?_)
    refine wpAnyH_take (i := 8) (v := .bool (decide (now < pu))) rfl (by kernel_rfl) (by kernel_rfl) (by kernel_rfl) (fun _ _ _ h => h) (Or.inl ⟨by rfl, ?_⟩) hHeld ?_
    · intro u u1
      go_simp
    simp only [Act.put, List.getElem_toArray, List.getElem_cons_succ, List.getElem_cons_zero, List.setIfInBounds_toArray, List.set_cons_zero, List.set_cons_succ]
    refine wpAnyH_done (by kernel_rfl) ?_ _
    go_wp2
    exact bodyPost_ret (ret_s1 rfl rfl rfl i6 ⟨_, Try.underlying36⟩ (by kernel_rfl)) rfl ⟨rfl, hb6⟩

end Go.Proofs.Ytcmhjlflgedcdaa
