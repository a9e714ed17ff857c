/- New, Left and Next of package ids. -/
import Derived.Test.YtnpgbiehnnekgaaIdA
import Derived.Lib.SliceRun
namespace Go.Proofs.Ytnpgbiehnnekgaa
open Go.RowKit
namespace Ix

theorem cloneI_any (v : Value) (xs : List Int) (w : World) (h : Row w v xs.length (iC xs)) (hn : xs.length ≤ 17592186043904) :
    Calls Try.prog 17 #[v] w fun e w' => ∃ v', e = .returned v' ∧ w'.ownsRow w.heap.size 3 1 v' xs.length (iC xs) ∧ Below w.heap.size w w' := by
  obtain ⟨i0, hi, hz0, hz1, hz2⟩ := info_parts info3'
  have hb := lay (Below.refl w.heap.size w) (.cells #[] 3)
  have h2 := h.below hb
  have hown := own_blk (B := w.heap.size) (z := 1) (n := 0) (xs := []) (Blk.new w #[] 3) (Nat.le_refl _) rfl rfl (Nat.zero_le _)
  have hl := iC_len xs
  rcases h with ⟨rfl, h0⟩ | ⟨g, o, p, cap, rfl, _, _⟩
  · have h00 : xs = [] := List.eq_nil_of_length_eq_zero h0
    subst h00
    have hnil := fun u : World => Lib.run_eql_slice_nil (P := Try.prog) u 22 3 none 0 0 0 0 Try.underlying22
    clear h2 hown hb
    go_enter Try.func17, Try.ntmps17
    go_wp2
    go_ret
    exact ⟨_, rfl, ⟨rfl, .inl ⟨rfl, rfl⟩⟩, Below.refl _ _⟩
  · have hnil := fun u : World => Lib.run_eql_slice_nil (P := Try.prog) u 22 3 (some ⟨g, o, p⟩) xs.length cap 0 0 Try.underlying22
    go_enter Try.func17, Try.ntmps17
    go_wp2_with (at_builtin; refine wpList_appG _ rfl (.tmp 5) (.tmp 6) 22 3 i0 _ 1 8 Try.underlying22 hi hz0 hz1 hz2 rfl (by decide) rfl w.heap.size _ 0 [] rfl hown _ xs.length (iC xs) rfl h2 (by omega) (iC_one xs) (by omega) (by unfold maxLen; omega) hb.size ?_; intro v' w2 h1 h3 _)
    go_ret
    exact ⟨_, rfl, by simpa using h1, hb.grown h3 hb.size (fun j e => (hown.lt j e).1)⟩

/-- An Ids: its block, its row of draws, how many are given. -/
structure IdAt (B : Nat) (w : World) (g : Nat) (v : Value) (ps : List Int) (k : Nat) : Prop where
  blk : Blk w g #[v, .int .i64 (k : Int)] 43
  own : w.ownsRow B 3 1 v ps.length (iC ps)
  new : B ≤ g
  le : k ≤ ps.length
  most : ps.length ≤ 1024
theorem IdAt.sep {B : Nat} {w : World} {g : Nat} {v : Value} {ps : List Int} {k : Nat} (h : IdAt B w g v ps k) (i : Nat) (hi : v.ownBlock = some i) : i ≠ g := by
  rintro rfl
  obtain ⟨cur, hc⟩ := own_cells h.own hi
  exact absurd (blk_tag hc h.blk) (by decide)
theorem IdAt.below {B : Nat} {w w' : World} {g : Nat} {v : Value} {ps : List Int} {k : Nat} (h : IdAt B w g v ps k) (hb : Below w.heap.size w w') : IdAt B w' g v ps k := ⟨h.blk.below hb, own_past h.own hb, h.new, h.le, h.most⟩
theorem IdAt.turn {B : Nat} {S : Nat → Prop} {w w' : World} {g : Nat} {v : Value} {ps : List Int} {k : Nat} (h : IdAt B w g v ps k) (ht : Turn S w w') (hs : ∀ i, S i → i ≠ g ∧ v.ownBlock ≠ some i) : IdAt B w' g v ps k :=
  ⟨ht.blk h.blk (fun e => (hs g e).1 rfl), ht.row h.own (fun i hi e => (hs i e).2 hi), h.new, h.le, h.most⟩
theorem IdAt.base {B B' : Nat} {w : World} {g : Nat} {v : Value} {ps : List Int} {k : Nat} (h : IdAt B w g v ps k) (hB : B' ≤ B) : IdAt B' w g v ps k := ⟨h.blk, own_base h.own hB, Nat.le_trans hB h.new, h.le, h.most⟩
theorem IdAt.step {B : Nat} {w : World} {g : Nat} {v : Value} {ps : List Int} {k : Nat} (h : IdAt B w g v ps k) (hk : k < ps.length) : IdAt B (w.setCell ⟨g, 1, none⟩ (.int .i64 ((k + 1 : Nat) : Int))) g v ps (k + 1) := by
  have ht := Turn.of_set (S := fun i => i = g) w (p := ⟨g, 1, none⟩) rfl (.int .i64 ((k + 1 : Nat) : Int))
  exact ⟨h.blk.set 1 _, ht.row h.own (fun i hi e => h.sep i hi e), h.new, hk, h.most⟩

theorem new_no (x : Option Addr) (n c : Nat) (w : World) (hm : n ≤ maxLen) (hn : 1024 < n) :
    Calls Try.prog 6 #[.slice x n c] w fun e w' => e = .returned (.tuple #[.pointer none, .int .i64 1800]) ∧ w' = w := by
  unfold maxLen at hm
  have hn' : (1024 : Int) < (n : Int) := by omega
  go_enter Try.func6, Try.ntmps6
  go_wp2
  go_ret2
  exact ⟨rfl, rfl⟩
theorem new_yes (v : Value) (ps : List Int) (w : World) (h : Row w v ps.length (iC ps)) (hn : ps.length ≤ 1024) :
    Calls Try.prog 6 #[v] w fun e w' => ∃ g u, e = .returned (.tuple #[.pointer (some ⟨g, 0, none⟩), .int .i64 0]) ∧ IdAt w.heap.size w' g u ps 0 ∧ Below w.heap.size w w' := by
  obtain ⟨x, c, hv⟩ := row_slice h
  have hc := cloneI_any v ps w h (by omega)
  obtain ⟨N, hN⟩ : ∃ N, N = ps.length := ⟨_, rfl⟩
  have HN : Hid (N = ps.length) := hN
  have HM : Hid (ps.length ≤ 1024) := hn
  rw [← hN] at hv hn
  subst hv
  have hn' : decide ((1024 : Int) < (N : Int)) = false := by simp; omega
  clear h hN
  go_enter Try.func6, Try.ntmps6
  go_wp2_with (go_at_call 17; go_must (refine hc.mono ?_); rintro e w1 ⟨u, rfl, hown, hb⟩; obtain ⟨y, d, rfl⟩ := row_slice (Row.of_own hown); rw [← HN.out] at hown)
  go_ret2
  rw [HN.out] at hown
  exact ⟨_, _, rfl, ⟨Blk.new w1 _ _, own_past hown (lay (Below.refl _ _) _), hb.size, Nat.zero_le _, HM.out⟩, lay hb _⟩

theorem left_any {B : Nat} {w : World} {g : Nat} {v : Value} {ps : List Int} {k : Nat} (h : IdAt B w g v ps k) :
    Calls Try.prog 14 #[.pointer (some ⟨g, 0, none⟩)] w fun e w' => e = .returned (.int .i64 ((ps.length - k : Nat) : Int)) ∧ Below w.heap.size w w' := by
  obtain ⟨x, c, rfl⟩ := row_slice (Row.of_own h.own)
  have hk := h.le
  have hm := h.most
  have c0 := h.blk.cell 0
  have c1 := h.blk.cell 1
  simp only [List.getElem?_toArray, List.getElem?_cons_succ, List.getElem?_cons_zero] at c0 c1
  obtain ⟨N, hN⟩ : ∃ N, N = ps.length := ⟨_, rfl⟩
  rw [← hN] at c0 hk hm ⊢
  have e1 : (N : Int) - (k : Int) = ((N - k : Nat) : Int) := by omega
  clear h hN
  go_enter Try.func14, Try.ntmps14
  go_wp2
  go_region
  go_wp2
  go_ret
  exact ⟨rfl, below_drew ⟨1, rfl⟩⟩

theorem ret_u16 (q : Int) : wrap64 (IntKind.u16.wrap q) = q % 65536 := by
  rw [IntKind.wrap_u16]
  unfold wrap64
  omega
theorem next_no {B : Nat} {w : World} {g : Nat} {v : Value} {ps : List Int} {k : Nat} (h : IdAt B w g v ps k) (hk : k = ps.length) :
    Calls Try.prog 12 #[.pointer (some ⟨g, 0, none⟩)] w fun e w' => e = .returned (.tuple #[.int .i64 0, .int .i64 1801]) ∧ Below w.heap.size w w' := by
  have hl := left_any h
  rw [show ps.length - k = 0 by omega] at hl
  clear hk h
  go_enter Try.func12, Try.ntmps12
  go_wp2_with (go_at_call 14; go_must (refine hl.mono ?_); rintro e w1 ⟨rfl, hb⟩)
  go_ret2
  exact ⟨rfl, hb⟩
set_option maxRecDepth 20000 in
theorem next_yes {B : Nat} {w : World} {g : Nat} {v : Value} {ps : List Int} {k : Nat} (h : IdAt B w g v ps k) (hk : k < ps.length) (q : Int) (hq : ps[k] = q) :
    Calls Try.prog 12 #[.pointer (some ⟨g, 0, none⟩)] w fun e w' => e = .returned (.tuple #[.int .i64 (q % 65536), .int .i64 0]) ∧ IdAt B w' g v ps (k + 1) ∧ Turn (fun i => i = g) w w' := by
  have hl := left_any h
  have hm := h.most
  have H : Hid (IdAt B w g v ps k) := h
  have HK : Hid (k < ps.length) := hk
  obtain ⟨x, cap, e1, _, _⟩ := h.own.form (by omega)
  subst e1
  have HC : ∀ u : World, Below w.heap.size w u → u.cell? ⟨x, k, none⟩ = some (.int .i64 q) := fun u hb => by
    rw [(own_past h.own hb).cellAt k (by omega), iC_at hk, hq]
  obtain ⟨N, hN⟩ : ∃ N, N = ps.length := ⟨_, rfl⟩
  have HN : Hid (N = ps.length) := hN
  have hkN : k < N := by omega
  have hmN : N ≤ 1024 := by omega
  have hkN' : (k : Int) < (N : Int) := by omega
  rw [← hN] at hl
  have hz : (((N - k : Nat) : Int) == 0) = false := by rw [beq_eq_false_iff_ne]; omega
  clear h hk hq hN hm
  go_enter Try.func12, Try.ntmps12
  go_wp2_with (go_at_call 14; go_must (refine hl.mono ?_); rintro e w1 ⟨rfl, hb⟩; have H1 := H.out.below hb; have c0 := H1.blk.cell 0; have c1 := H1.blk.cell 1; have f1 := H1.blk.frozen 1; have cx := HC w1 hb; have HB : Hid (Below w.heap.size w w1) := hb; clear HC hl hb; rw [← HN.out] at c0; simp only [List.getElem?_toArray, List.getElem?_cons_succ, List.getElem?_cons_zero] at c0 c1)
  go_region
  go_wp2
  go_ret2
  have HA := H1.step HK.out
  have ht := (Turn.of_below HB.out).same (Turn.of_set (S := fun i => i = g) w1 (p := ⟨g, 1, none⟩) rfl (.int .i64 ((k + 1 : Nat) : Int)))
  rw [show ((k + 1 : Nat) : Int) = (k : Int) + 1 by omega] at HA ht
  exact ⟨by rw [ret_u16 q]; rfl, HA.below (below_drew ⟨1, rfl⟩), ht.past (below_drew ⟨1, rfl⟩)⟩

end Ix
end Go.Proofs.Ytnpgbiehnnekgaa
