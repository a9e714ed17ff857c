/- What copies, lends, compares and spoils rows of records, of texts and of sets. -/
import Derived.Test.YtdaegnmokaibpaaSeJ
namespace Go.Proofs.Ytdaegnmokaibpaa
open Go.RowKit
open Pl

theorem info9' : (Try.prog.info? 9).map (fun i => (i.zero, i.size, i.bytes)) = some (some (.string ⟨#[]⟩), 1, 16) := by kernel_rfl

/-- A mark behind records that were lent. -/
def mkR : Rc := ⟨⟨#[]⟩, 0, 0, 77777, ⟨#[]⟩⟩
/-- Rows that were lent: their cells, and the marks behind them. -/
def Lies (w : World) (g : Nat) (xs : List Value) : Prop := ∀ j u, xs[j]? = some u → w.cell? ⟨g, j, none⟩ = some u
theorem Lies.below {w w' : World} {g : Nat} {xs : List Value} (h : Lies w g xs) (hb : Below w.heap.size w w') : Lies w' g xs := fun j u hu => by
  have h1 := h j u hu
  rw [hb.cell (World.block_lt_of_cell? _ _ h1)]; exact h1
theorem Lies.turn {S : Nat → Prop} {w w' : World} {g : Nat} {xs : List Value} (h : Lies w g xs) (ht : Turn S w w') (hs : ¬ S g) : Lies w' g xs := fun j u hu => by
  have h1 := h j u hu
  have hlt := World.block_lt_of_cell? _ _ h1
  have hb := ht.block g hlt hs
  unfold World.cell? at h1 ⊢
  simp only [hb]
  exact h1
theorem Lies.row {w : World} {g cap n : Nat} {xs ys : List Value} (h : Lies w g (xs ++ ys)) : Row w (.slice (some ⟨g, 0, none⟩) n cap) n xs := by
  refine .inr ⟨g, 0, none, cap, rfl, fun _ => rfl, fun j u hu => ?_⟩
  rw [Nat.zero_add]
  refine h j u ?_
  rw [List.getElem?_append_left (List.getElem?_eq_some_iff.1 hu).1]
  exact hu
theorem lies_own {w : World} {base e z g cap N : Nat} {xs : List Value} (h : w.ownsRow base e z (.slice (some ⟨g, 0, none⟩) N cap) N xs) : Lies w g xs ∧ N ≤ cap := by
  refine ⟨fun j u hu => ?_, ?_⟩
  · have hj := (List.getElem?_eq_some_iff.1 hu).1
    rw [h.cellAt j (by rw [← h.1]; exact hj), hu]
  · rcases h.2 with ⟨e, _⟩ | ⟨g', cap', cur, e, _, _, hnc, _⟩
    · simp at e
    · simp at e; omega

theorem copyR_any (v : Value) (rs : List Rc) (w : World) (h : RRow w v rs) (hn : rs.length ≤ 2000000) :
    Calls Try.prog 24 #[v] w fun e w' => ∃ v', e = .returned v' ∧ w'.ownsRow w.heap.size 43 5 v' rs.length (rC rs) ∧ Below w.heap.size w w' := by
  obtain ⟨i0, hi, hz0, hz1, hz2⟩ := info_parts infoR'
  have hb := lay (Below.refl w.heap.size w) (.cells #[] 43)
  have h2 := h.below hb
  have hown := own_blk (B := w.heap.size) (z := 5) (n := 0) (xs := []) (Blk.new w #[] 43) (Nat.le_refl _) rfl rfl (Nat.zero_le _)
  obtain ⟨x, c, rfl⟩ := row_slice h.1
  go_enter Try.func24, Try.ntmps24
  go_wp2_with (at_builtin; refine wpList_appG _ rfl (.tmp 3) (.tmp 4) 22 43 i0 _ 5 56 Try.underlying22 hi hz0 hz1 hz2 rfl (by decide) rfl w.heap.size _ 0 [] rfl hown _ rs.length (rC rs) rfl h2.1 (rC_len rs) (rC_one rs) (by omega) (by unfold maxLen; omega) hb.size ?_; intro v' w2 h1 h3 _)
  go_ret
  exact ⟨_, rfl, by simpa using h1, hb.grown h3 hb.size (fun j e => (hown.lt j e).1)⟩
theorem lendR_any (v : Value) (rs : List Rc) (w : World) (h : RRow w v rs) (hn : rs.length ≤ 2000000) :
    Calls Try.prog 9 #[v] w fun e w' => ∃ g cap, e = .returned (.slice (some ⟨g, 0, none⟩) rs.length cap) ∧ rs.length + 2 ≤ cap ∧ Lies w' g (rC rs ++ rC [mkR, mkR]) ∧ w.heap.size ≤ g ∧ Below w.heap.size w w' := by
  obtain ⟨i0, hi, hz0, hz1, hz2⟩ := info_parts infoR'
  obtain ⟨N, hN⟩ : ∃ N, N = rs.length := ⟨_, rfl⟩
  have HN : Hid (N = rs.length) := hN
  obtain ⟨x, c, hv⟩ := row_slice h.1
  have hc := copyR_any v rs w h hn
  rw [← hN] at hv hn ⊢
  subst hv
  clear hN
  go_enter Try.func9, Try.ntmps9
  go_wp2_with (first
    | (go_at_call 24; go_must (refine hc.mono ?_); rintro e w1 ⟨v1, rfl, hown, hb⟩; rw [← HN.out] at hown)
    | (at_builtin; refine wpList_appG _ rfl (.tmp 5) (.tmp 8) 22 43 i0 _ 5 56 Try.underlying22 hi hz0 hz1 hz2 rfl (by decide) rfl w.heap.size _ N (rC rs) rfl (hown.alloc _) (.slice (some ⟨w1.heap.size, 0, none⟩) 2 2) 2 (rC [mkR, mkR]) rfl (Row.of_blk (Blk.new w1 #[.string ⟨#[]⟩, .int .i64 0, .int .i64 0, .int .i64 77777, .string ⟨#[]⟩, .string ⟨#[]⟩, .int .i64 0, .int .i64 0, .int .i64 77777, .string ⟨#[]⟩] 43) rfl 2 2) rfl (rC_one _) (by omega) (by unfold maxLen; omega) (lay hb _).size ?_; intro v2 w2 h1 h3 _; obtain ⟨g, cap, rfl, _, _⟩ := h1.form (by omega); obtain ⟨hl, hcap⟩ := lies_own h1; have hcap2 : N ≤ cap := (by omega); have hgl := (h1.lt g rfl).1; have hb2 : Below w.heap.size w w2 := (lay hb _).grown h3 (lay hb _).size (fun j e => (hown.lt j e).1); clear h1 h3))
  go_ret
  exact ⟨g, cap, rfl, hcap, hl, hgl, hb2⟩
set_option maxRecDepth 20000 in
theorem sameR_yes (v v' : Value) (qs : List Rc) (w : World) (h : Row w v qs.length (rC qs)) (h' : Row w v' qs.length (rC qs)) (hm : qs.length ≤ maxLen) :
    Calls Try.prog 18 #[v, v'] w fun e w' => e = .returned (.bool true) ∧ Below w.heap.size w w' := by
  obtain ⟨n, hn⟩ : ∃ n, n = qs.length := ⟨_, rfl⟩
  unfold maxLen at hm
  have HN : Hid (n = qs.length) := hn
  rw [← hn] at h h' hm
  obtain ⟨x, c, rfl⟩ := row_slice h
  obtain ⟨x', c', rfl⟩ := row_slice h'
  have HR : Hid (Row w (.slice x n c) n (rC qs)) := h
  have HR' : Hid (Row w (.slice x' n c') n (rC qs)) := h'
  have hb : Below w.heap.size w w := Below.refl _ _
  clear h h' hn
  go_enter Try.func18, Try.ntmps18
  go_wp2
  go_loopw [5] (fun i wr => ∃ k : Nat, k ≤ n ∧ i = .int .i64 (k : Int) ∧ Below w.heap.size w wr) (fun i _ => n - (intOf i).toNat)
  case atStart => exact ⟨0, Nat.zero_le _, rfl, hb⟩
  case round =>
    clear hb
    obtain ⟨k, hk, rfl, hb⟩ := hrel
    by_cases hkn : k < n
    · have hkm : k < qs.length := by have := HN.out; omega
      have hkn' : (k : Int) < (n : Int) := by omega
      obtain ⟨g, o, cap, hx, hc⟩ := row_at (HR.out.below hb) (by omega)
      obtain ⟨g', o', cap', hx', hc'⟩ := row_at (HR'.out.below hb) (by omega)
      simp only [Value.slice.injEq] at hx hx'
      obtain ⟨rfl, -, rfl⟩ := hx
      obtain ⟨rfl, -, rfl⟩ := hx'
      obtain ⟨d0, d1, d2, d3, d4⟩ := r_cells hc hkm
      obtain ⟨e0, e1, e2, e3, e4⟩ := r_cells hc' hkm
      obtain ⟨q, hq⟩ : ∃ q, q = qs[k] := ⟨_, rfl⟩
      simp only [← hq] at d0 d1 d2 d3 d4 e0 e1 e2 e3 e4
      obtain ⟨qn, qt, qc, ql, qd⟩ := q
      simp only at d0 d1 d2 d3 d4 e0 e1 e2 e3 e4
      clear hc hq hc'
      go_wp2
      go_region
      go_wp2
      go_roundw
      case rel => exact ⟨k + 1, by omega, by go_num, next hb (below_drew ⟨1, rfl⟩)⟩
      case measure => simp [intOf]; omega
    · have hkn' : decide (k < n) = false := by simpa using hkn
      go_wp2
      go_ret
      exact ⟨rfl, hb⟩
theorem marksR {w : World} {g : Nat} {rs : List Rc} (h : Lies w g (rC rs ++ rC [mkR, mkR])) :
    (w.cell? ⟨g, rs.length * 5, none⟩ = some (.string ⟨#[]⟩) ∧ w.cell? ⟨g, rs.length * 5 + 1, none⟩ = some (.int .i64 0) ∧ w.cell? ⟨g, rs.length * 5 + 2, none⟩ = some (.int .i64 0) ∧ w.cell? ⟨g, rs.length * 5 + 3, none⟩ = some (.int .i64 77777) ∧ w.cell? ⟨g, rs.length * 5 + 4, none⟩ = some (.string ⟨#[]⟩)) ∧
    (w.cell? ⟨g, (rs.length + 1) * 5, none⟩ = some (.string ⟨#[]⟩) ∧ w.cell? ⟨g, (rs.length + 1) * 5 + 1, none⟩ = some (.int .i64 0) ∧ w.cell? ⟨g, (rs.length + 1) * 5 + 2, none⟩ = some (.int .i64 0) ∧ w.cell? ⟨g, (rs.length + 1) * 5 + 3, none⟩ = some (.int .i64 77777) ∧ w.cell? ⟨g, (rs.length + 1) * 5 + 4, none⟩ = some (.string ⟨#[]⟩)) := by
  have hl := rC_len rs
  have H : ∀ i u, (rC [mkR, mkR])[i]? = some u → w.cell? ⟨g, rs.length * 5 + i, none⟩ = some u := fun i u hu => h _ _ (by
    rw [List.getElem?_append_right (by omega), hl, show rs.length * 5 + i - rs.length * 5 = i from by omega]; exact hu)
  have e : (rs.length + 1) * 5 = rs.length * 5 + 5 := by omega
  rw [e]
  exact ⟨⟨H 0 _ rfl, H 1 _ rfl, H 2 _ rfl, H 3 _ rfl, H 4 _ rfl⟩, H 5 _ rfl, H 6 _ rfl, H 7 _ rfl, H 8 _ rfl, H 9 _ rfl⟩
set_option maxRecDepth 20000 in
theorem keptR_any (g cap : Nat) (u : Value) (rs : List Rc) (w : World) (hl : Lies w g (rC rs ++ rC [mkR, mkR])) (hcap : rs.length + 2 ≤ cap) (h2 : RRow w u rs) (hn : rs.length ≤ 2000000) :
    Calls Try.prog 17 #[.slice (some ⟨g, 0, none⟩) rs.length cap, u] w fun e w' => e = .returned (.bool true) ∧ Below w.heap.size w w' := by
  have hsame := sameR_yes _ u rs w (hl.row (cap := cap)) h2.1 h2.2.1
  have HM : Hid (Lies w g (rC rs ++ rC [mkR, mkR])) := hl
  obtain ⟨y, d, e2⟩ := row_slice h2.1
  obtain ⟨N, hN⟩ : ∃ N, N = rs.length := ⟨_, rfl⟩
  have HN : Hid (N = rs.length) := hN
  rw [← hN] at hsame e2 hn hcap ⊢
  subst e2
  clear hN h2 hl
  have hcap2 : (N : Int) + 2 ≤ (cap : Int) := by omega
  go_enter Try.func17, Try.ntmps17
  go_wp2_with (go_at_call 18; go_must (refine hsame.mono ?_); rintro e w1 ⟨rfl, b1⟩; have mm := marksR (HM.out.below b1); rw [← HN.out] at mm; obtain ⟨⟨m0, m1, m2, m3, m4⟩, n0, n1, n2, n3, n4⟩ := mm)
  go_ret
  exact ⟨rfl, b1⟩

/-- The marks behind texts that were lent. -/
def mkT : List ByteArray := [⟨#[126, 114, 111, 111, 109]⟩, ⟨#[126, 98, 101, 104, 105, 110, 100]⟩]
theorem copyT_any (v : Value) (ds : List ByteArray) (w : World) (h : Row w v ds.length (tC ds)) (hn : ds.length ≤ 2000000) :
    Calls Try.prog 34 #[v] w fun e w' => ∃ v', e = .returned v' ∧ w'.ownsRow w.heap.size 9 1 v' ds.length (tC ds) ∧ Below w.heap.size w w' := by
  obtain ⟨i0, hi, hz0, hz1, hz2⟩ := info_parts info9'
  have hb := lay (Below.refl w.heap.size w) (.cells #[] 9)
  have h2 := h.below hb
  have hown := own_blk (B := w.heap.size) (z := 1) (n := 0) (xs := []) (Blk.new w #[] 9) (Nat.le_refl _) rfl rfl (Nat.zero_le _)
  obtain ⟨x, c, rfl⟩ := row_slice h
  go_enter Try.func34, Try.ntmps34
  go_wp2_with (at_builtin; refine wpList_appG _ rfl (.tmp 3) (.tmp 4) 23 9 i0 _ 1 16 Try.underlying23 hi hz0 hz1 hz2 rfl (by decide) rfl w.heap.size _ 0 [] rfl hown _ ds.length (tC ds) rfl h2 (by rw [tC_len, Nat.mul_one]) (tC_one ds) (by omega) (by unfold maxLen; omega) hb.size ?_; intro v' w2 h1 h3 _)
  go_ret
  exact ⟨_, rfl, by simpa using h1, hb.grown h3 hb.size (fun j e => (hown.lt j e).1)⟩
theorem lendT_any (v : Value) (ds : List ByteArray) (w : World) (h : Row w v ds.length (tC ds)) (hn : ds.length ≤ 2000000) :
    Calls Try.prog 12 #[v] w fun e w' => ∃ g cap, e = .returned (.slice (some ⟨g, 0, none⟩) ds.length cap) ∧ ds.length + 2 ≤ cap ∧ Lies w' g (tC ds ++ tC mkT) ∧ w.heap.size ≤ g ∧ Below w.heap.size w w' := by
  obtain ⟨i0, hi, hz0, hz1, hz2⟩ := info_parts info9'
  obtain ⟨N, hN⟩ : ∃ N, N = ds.length := ⟨_, rfl⟩
  have HN : Hid (N = ds.length) := hN
  obtain ⟨x, c, hv⟩ := row_slice h
  have hc := copyT_any v ds w h hn
  rw [← hN] at hv hn ⊢
  subst hv
  clear hN
  go_enter Try.func12, Try.ntmps12
  go_wp2_with (first
    | (go_at_call 34; go_must (refine hc.mono ?_); rintro e w1 ⟨v1, rfl, hown, hb⟩; rw [← HN.out] at hown)
    | (at_builtin; refine wpList_appG _ rfl (.tmp 5) (.tmp 6) 23 9 i0 _ 1 16 Try.underlying23 hi hz0 hz1 hz2 rfl (by decide) rfl w.heap.size _ N (tC ds) rfl (hown.alloc _) (.slice (some ⟨w1.heap.size, 0, none⟩) 2 2) 2 (tC mkT) rfl (Row.of_blk (Blk.new w1 #[.string ⟨#[126, 114, 111, 111, 109]⟩, .string ⟨#[126, 98, 101, 104, 105, 110, 100]⟩] 9) rfl 2 2) rfl (tC_one _) (by omega) (by unfold maxLen; omega) (lay hb _).size ?_; intro v2 w2 h1 h3 _; obtain ⟨g, cap, rfl, _, _⟩ := h1.form (by omega); obtain ⟨hl, hcap⟩ := lies_own h1; have hcap2 : N ≤ cap := (by omega); have hgl := (h1.lt g rfl).1; have hb2 : Below w.heap.size w w2 := (lay hb _).grown h3 (lay hb _).size (fun j e => (hown.lt j e).1); clear h1 h3))
  go_ret
  exact ⟨g, cap, rfl, hcap, hl, hgl, hb2⟩
theorem marksT {w : World} {g : Nat} {ds : List ByteArray} (h : Lies w g (tC ds ++ tC mkT)) : w.cell? ⟨g, ds.length, none⟩ = some (.string ⟨#[126, 114, 111, 111, 109]⟩) ∧ w.cell? ⟨g, ds.length + 1, none⟩ = some (.string ⟨#[126, 98, 101, 104, 105, 110, 100]⟩) := by
  have hl := tC_len ds
  have H : ∀ i u, (tC mkT)[i]? = some u → w.cell? ⟨g, ds.length + i, none⟩ = some u := fun i u hu => h _ _ (by
    rw [List.getElem?_append_right (by omega), hl, show ds.length + i - ds.length = i from by omega]; exact hu)
  exact ⟨H 0 _ rfl, H 1 _ rfl⟩
set_option maxRecDepth 20000 in
theorem keptT_any (g cap : Nat) (u : Value) (ds : List ByteArray) (w : World) (hl : Lies w g (tC ds ++ tC mkT)) (hcap : ds.length + 2 ≤ cap) (h2 : Row w u ds.length (tC ds)) (hn : ds.length ≤ 2000000) :
    Calls Try.prog 19 #[.slice (some ⟨g, 0, none⟩) ds.length cap, u] w fun e w' => e = .returned (.bool true) ∧ Below w.heap.size w w' := by
  have hsame := sameT_any _ u ds ds w (hl.row (cap := cap) (n := ds.length)) h2 (by unfold maxLen; omega) (by unfold maxLen; omega) true (by simp)
  have HM : Hid (Lies w g (tC ds ++ tC mkT)) := hl
  obtain ⟨y, d, e2⟩ := row_slice h2
  obtain ⟨N, hN⟩ : ∃ N, N = ds.length := ⟨_, rfl⟩
  have HN : Hid (N = ds.length) := hN
  rw [← hN] at hsame e2 hn hcap ⊢
  subst e2
  clear hN h2 hl
  have hcap2 : (N : Int) + 2 ≤ (cap : Int) := by omega
  go_enter Try.func19, Try.ntmps19
  go_wp2_with (go_at_call 36; go_must (refine hsame.mono ?_); rintro e w1 ⟨rfl, b1⟩; have mm := marksT (HM.out.below b1); rw [← HN.out] at mm; obtain ⟨m0, m1⟩ := mm)
  go_ret
  exact ⟨rfl, b1⟩

/-- Texts of no more than so many bytes. -/
def Texts (xs : List Value) (n m : Nat) : Prop := ∀ j, j < n → ∃ s : ByteArray, xs[j]? = some (.string s) ∧ s.size ≤ m
theorem Texts.set {xs : List Value} {n m : Nat} (h : Texts xs n m) (i : Nat) (s : ByteArray) (hs : s.size ≤ m + 1) : Texts (xs.set i (.string s)) n (m + 1) := by
  intro j hj
  obtain ⟨t, ht, hm⟩ := h j hj
  by_cases e : i = j
  · subst e
    exact ⟨s, List.getElem?_set_self (List.getElem?_eq_some_iff.1 ht).1, hs⟩
  · exact ⟨t, by rw [List.getElem?_set_ne e]; exact ht, by omega⟩
set_option maxRecDepth 20000 in
theorem spoilT_any {B n cap m : Nat} {y : Option Addr} {xs : List Value} {w : World} (hown : w.ownsRow B 9 1 (.slice y n cap) n xs) (hi : Texts xs n m) (hn : n ≤ 1000) (hm : m ≤ 1000000) :
    Calls Try.prog 37 #[.slice y n cap] w fun e w' => e = .returned (.tuple #[]) ∧ Turn (fun k => (Value.slice y n cap).ownBlock = some k) w w' := by
  have HT : Hid (Turn (fun k => (Value.slice y n cap).ownBlock = some k) w w) := Turn.refl _ _
  by_cases h0 : n = 0
  · subst h0
    clear hown hi
    go_enter Try.func37, Try.ntmps37
    go_wp2
    go_loopw [2] (fun i wr => i = .int .i64 0 ∧ wr = w) (fun _ _ => 0)
    case atStart => exact ⟨rfl, rfl⟩
    case round =>
      obtain ⟨rfl, rfl⟩ := hrel
      go_wp2
      go_end0
      exact ⟨rfl, HT.out⟩
  · obtain ⟨g, cap', e1, _, _⟩ := hown.form (by omega)
    simp only [Value.slice.injEq, true_and] at e1
    obtain ⟨rfl, rfl⟩ := e1
    have HS : Hid (w.ownsRow B 9 1 (.slice (some ⟨g, 0, none⟩) n cap) n xs ∧ Texts xs n (m + 0) ∧ Turn (fun k => (Value.slice (some ⟨g, 0, none⟩) n cap).ownBlock = some k) w w) := ⟨hown, hi, HT.out⟩
    clear hown hi HT
    go_enter Try.func37, Try.ntmps37
    go_wp2
    go_loopw [2] (fun i wr => ∃ (j : Nat) (xs' : List Value), j ≤ n ∧ i = .int .i64 (j : Int) ∧ Hid (wr.ownsRow B 9 1 (.slice (some ⟨g, 0, none⟩) n cap) n xs' ∧ Texts xs' n (m + j) ∧ Turn (fun k => (Value.slice (some ⟨g, 0, none⟩) n cap).ownBlock = some k) w wr)) (fun i _ => n - (intOf i).toNat)
    case atStart => exact ⟨0, xs, Nat.zero_le _, rfl, HS⟩
    case round =>
      clear HS
      obtain ⟨j, xs', hj, rfl, HS⟩ := hrel
      by_cases hjn : j < n
      · obtain ⟨s, ht, hs⟩ := HS.out.2.1 j hjn
        have c1 : wr.cell? ⟨g, j, none⟩ = some (.string s) := by rw [HS.out.1.cellAt j (by omega)]; exact ht
        have f1 := HS.out.1.frozenAt j
        have hsum : ((⟨#[126]⟩ : ByteArray) ++ s).size = s.size + 1 := by rw [← data_len, ← data_len]; simp
        have HST : Hid ((wr.setCell ⟨g, j, none⟩ (.string (⟨#[126]⟩ ++ s))).ownsRow B 9 1 (.slice (some ⟨g, 0, none⟩) n cap) n (xs'.set j (.string (⟨#[126]⟩ ++ s))) ∧ Texts (xs'.set j (.string (⟨#[126]⟩ ++ s))) n (m + (j + 1)) ∧ Turn (fun k => (Value.slice (some ⟨g, 0, none⟩) n cap).ownBlock = some k) w (wr.setCell ⟨g, j, none⟩ (.string (⟨#[126]⟩ ++ s)))) :=
          ⟨(HS.out.1.stored _ _).1, HS.out.2.1.set _ _ (by omega), HS.out.2.2.same (Turn.of_set (S := fun k => (Value.slice (some ⟨g, 0, none⟩) n cap).ownBlock = some k) wr (p := ⟨g, j, none⟩) rfl _)⟩
        have zz : ∀ u : World, (Op.stringOp .add ⟨#[126]⟩ s).run Try.prog u = .ok (.string (⟨#[126]⟩ ++ s)) u := fun u => run_string_add_sum u _ s (by show 1 + s.size ≤ _; omega)
        clear ht hsum
        go_wp2
        go_roundw
        case rel => exact ⟨j + 1, _, by omega, by go_num, HST.out⟩
        case measure => simp [intOf]; omega
      · have hjn' : decide (j < n) = false := by simpa using hjn
        go_wp2
        go_end0
        exact ⟨rfl, HS.out.2.2⟩

end Go.Proofs.Ytdaegnmokaibpaa
