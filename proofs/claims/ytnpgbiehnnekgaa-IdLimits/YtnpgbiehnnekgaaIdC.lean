/- The document's drawn numbers: NewIds, Next and Left. -/
import Derived.Test.YtnpgbiehnnekgaaIdB
namespace Go.Proofs.Ytnpgbiehnnekgaa
open Go.RowKit
namespace Ix

/-- What is left of a row v of n numbers behind the first k. -/
def TailOf (v : Value) (n k : Nat) (u : Value) : Prop := ∃ x c, u = .slice x (n - k) c ∧ (k < n → ∃ g cap, v = .slice (some ⟨g, 0, none⟩) n cap ∧ x = some ⟨g, k, none⟩ ∧ n - k ≤ c)
theorem TailOf.first {B n : Nat} {w : World} {v : Value} {xs : List Value} (h : w.ownsRow B 3 1 v n xs) : TailOf v n 0 v := by
  rcases h.2 with ⟨rfl, rfl⟩ | ⟨g, cap, cur, rfl, _, _, hnc, _⟩
  · exact ⟨_, _, rfl, fun h => absurd h (by omega)⟩
  · exact ⟨_, _, rfl, fun _ => ⟨g, cap, rfl, rfl, by omega⟩⟩
/-- The document's Ids: its block, the row that it made, how many are given. -/
structure RdAt (B : Nat) (w : World) (g : Nat) (v u : Value) (ps : List Int) (k : Nat) : Prop where
  blk : Blk w g #[u] 45
  own : w.ownsRow B 3 1 v ps.length (iC ps)
  tail : TailOf v ps.length k u
  new : B ≤ g
  le : k ≤ ps.length
  most : ps.length ≤ 1024
theorem RdAt.sep {B : Nat} {w : World} {g : Nat} {v u : Value} {ps : List Int} {k : Nat} (h : RdAt B w g v u ps k) (i : Nat) (hi : v.ownBlock = some i) : i ≠ g := by
  rintro rfl
  obtain ⟨cur, hc⟩ := own_cells h.own hi
  exact absurd (blk_tag hc h.blk) (by decide)
theorem RdAt.below {B : Nat} {w w' : World} {g : Nat} {v u : Value} {ps : List Int} {k : Nat} (h : RdAt B w g v u ps k) (hb : Below w.heap.size w w') : RdAt B w' g v u ps k := ⟨h.blk.below hb, own_past h.own hb, h.tail, h.new, h.le, h.most⟩
theorem RdAt.turn {B : Nat} {S : Nat → Prop} {w w' : World} {g : Nat} {v u : Value} {ps : List Int} {k : Nat} (h : RdAt B w g v u ps k) (ht : Turn S w w') (hs : ∀ i, S i → i ≠ g ∧ v.ownBlock ≠ some i) : RdAt B w' g v u ps k :=
  ⟨ht.blk h.blk (fun e => (hs g e).1 rfl), ht.row h.own (fun i hi e => (hs i e).2 hi), h.tail, h.new, h.le, h.most⟩
theorem RdAt.step {B : Nat} {w : World} {g : Nat} {v u u' : Value} {ps : List Int} {k : Nat} (h : RdAt B w g v u ps k) (hk : k < ps.length) (hu : TailOf v ps.length (k + 1) u') : RdAt B (w.setCell ⟨g, 0, none⟩ u') g v u' ps (k + 1) := by
  have ht := Turn.of_set (S := fun i => i = g) w (p := ⟨g, 0, none⟩) rfl u'
  exact ⟨h.blk.set 0 _, ht.row h.own (fun i hi e => h.sep i hi e), hu, h.new, hk, h.most⟩

theorem rnew_no (x : Option Addr) (n c : Nat) (w : World) (hm : n ≤ maxLen) (hn : 1024 < n) :
    Calls Try.prog 7 #[.slice x n c] w fun e w' => e = .returned (.tuple #[.pointer none, .int .i64 1800]) ∧ w' = w := by
  unfold maxLen at hm
  have hn' : (1024 : Int) < (n : Int) := by omega
  go_enter Try.func7, Try.ntmps7
  go_wp2
  go_ret2
  exact ⟨rfl, rfl⟩
theorem rnew_yes (v : Value) (ps : List Int) (w : World) (h : Row w v ps.length (iC ps)) (hn : ps.length ≤ 1024) :
    Calls Try.prog 7 #[v] w fun e w' => ∃ g u, e = .returned (.tuple #[.pointer (some ⟨g, 0, none⟩), .int .i64 0]) ∧ RdAt w.heap.size w' g u u ps 0 ∧ Below w.heap.size w w' := by
  obtain ⟨i0, hi, hz0, hz1, hz2⟩ := info_parts info3'
  have hb := lay (Below.refl w.heap.size w) (.cells #[] 3)
  have h2 := h.below hb
  have hown := own_blk (B := w.heap.size) (z := 1) (n := 0) (xs := []) (Blk.new w #[] 3) (Nat.le_refl _) rfl rfl (Nat.zero_le _)
  have hl := iC_len ps
  obtain ⟨x, c, hv⟩ := row_slice h
  obtain ⟨N, hN⟩ : ∃ N, N = ps.length := ⟨_, rfl⟩
  have HN : Hid (N = ps.length) := hN
  have HM : Hid (ps.length ≤ 1024) := hn
  rw [← hN] at hv hn h2 hl
  subst hv
  have hn' : decide ((1024 : Int) < (N : Int)) = false := by simp; omega
  clear h hN
  go_enter Try.func7, Try.ntmps7
  go_wp2_with (at_builtin; refine wpList_appG _ rfl (.tmp 7) (.tmp 8) 22 3 i0 _ 1 8 Try.underlying22 hi hz0 hz1 hz2 rfl (by decide) rfl w.heap.size _ 0 [] rfl hown _ N (iC ps) rfl h2 (by omega) (iC_one ps) (by omega) (by unfold maxLen; omega) hb.size ?_; intro v' w2 h1 h3 _; rw [List.nil_append, Nat.zero_add] at h1; obtain ⟨y, d, rfl⟩ := row_slice (Row.of_own h1))
  go_ret2
  rw [HN.out] at h1 ⊢
  have hb2 : Below w.heap.size w w2 := hb.grown h3 hb.size (fun j e => (hown.lt j e).1)
  exact ⟨_, _, rfl, ⟨Blk.new w2 _ _, own_past h1 (lay (Below.refl _ _) _), TailOf.first h1, hb2.size, Nat.zero_le _, HM.out⟩, lay hb2 _⟩

theorem rleft_any {B : Nat} {w : World} {g : Nat} {v u : Value} {ps : List Int} {k : Nat} (h : RdAt B w g v u ps k) :
    Calls Try.prog 15 #[.pointer (some ⟨g, 0, none⟩)] w fun e w' => e = .returned (.int .i64 ((ps.length - k : Nat) : Int)) ∧ w' = w := by
  obtain ⟨x, c, rfl, _⟩ := h.tail
  have c0 := h.blk.cell 0
  simp only [List.getElem?_toArray, List.getElem?_cons_zero] at c0
  clear h
  go_enter Try.func15, Try.ntmps15
  go_wp2
  go_ret
  exact ⟨rfl, rfl⟩
theorem rnext_no {B : Nat} {w : World} {g : Nat} {v u : Value} {ps : List Int} {k : Nat} (h : RdAt B w g v u ps k) (hk : k = ps.length) :
    Calls Try.prog 13 #[.pointer (some ⟨g, 0, none⟩)] w fun e w' => e = .returned (.tuple #[.int .i64 0, .int .i64 1801]) ∧ w' = w := by
  obtain ⟨x, c, rfl, _⟩ := h.tail
  have c0 := h.blk.cell 0
  simp only [List.getElem?_toArray, List.getElem?_cons_zero] at c0
  rw [show ps.length - k = 0 by omega] at c0
  clear h hk
  go_enter Try.func13, Try.ntmps13
  go_wp2
  go_ret2
  exact ⟨rfl, rfl⟩
theorem run_slice1 {w : World} {v u : Value} {n k : Nat} (ht : TailOf v n k u) (hk : k < n) :
    ∃ u', (Instr.sliceAt 22 u (some (.int .i64 1)) none none).run Try.prog w = .ok u' w ∧ TailOf v n (k + 1) u' := by
  obtain ⟨x, c, rfl, h⟩ := ht
  obtain ⟨g, cap, rfl, rfl, hc⟩ := h hk
  have hu : Try.prog.underlying 22 = some (.slice (Try.prog.elem 22)) := by rw [Try.underlying22]; simp [Program.elem, Try.underlying22]
  have he : Try.prog.elem 22 = 3 := by simp [Program.elem, Try.underlying22]
  refine ⟨.slice (if c = 1 then some ⟨g, k, none⟩ else some ⟨g, k + 1, none⟩) (n - (k + 1)) (c - 1), ?_, _, _, rfl, fun hk2 => ⟨g, cap, rfl, ?_, by omega⟩⟩
  · rw [run_sliceAt_slice w 22 _ _ _ _ hu, run_slice_l w 22 _ (n - k) c hu .i64 _ (by omega) (by omega), he, Try.sizeOf3]
    simp [Result.andThen, sliced, Addr.add]
    omega
  · rw [if_neg (by omega)]
theorem wpList_slice1 (w : World) {ops : Array Oper} {rest : List Oper} {o : Oper} {a : Act} {Q : Exit → Act → World → Prop} (hgd : o.guard = none) (s : Operand)
    (ho : o.op = .slice 22 s (some (.const (.int .i64 1))) none none) {v u : Value} {n k : Nat} (hs : a.eval s = u) (ht : TailOf v n k u) (hk : k < n)
    (h : ∀ u', TailOf v n (k + 1) u' → wpList Try.prog ops Q rest (a.put o.dst u') w) : wpList Try.prog ops Q (o :: rest) a w := by
  obtain ⟨u', hr, htl⟩ := run_slice1 (w := w) ht hk
  refine wpList_plain hgd fun K hK => ?_
  have e1 : a.eval (.const (.int .i64 1)) = .int .i64 1 := rfl
  unfold Oper.wp
  simp only [execOp, ho, hs, e1, Option.map, Sem.run_bind, hr, Result.andThen_ok, Sem.run_pure]
  exact hK _ _ (h u' htl)
set_option maxRecDepth 20000 in
theorem rnext_yes {B : Nat} {w : World} {g : Nat} {v u : Value} {ps : List Int} {k : Nat} (h : RdAt B w g v u ps k) (hk : k < ps.length) (q : Int) (hq : ps[k] = q) :
    Calls Try.prog 13 #[.pointer (some ⟨g, 0, none⟩)] w fun e w' => e = .returned (.tuple #[.int .i64 (q % 65536), .int .i64 0]) ∧ ∃ u', RdAt B w' g v u' ps (k + 1) ∧ Turn (fun i => i = g) w w' := by
  have H : Hid (RdAt B w g v u ps k) := h
  have HK : Hid (k < ps.length) := hk
  have HT : Hid (TailOf v ps.length k u) := h.tail
  have c0 := h.blk.cell 0
  have f0 := h.blk.frozen 0
  obtain ⟨x, c, rfl, hx⟩ := h.tail
  obtain ⟨g', cap, rfl, rfl, hc⟩ := hx hk
  have cx : w.cell? ⟨g', k, none⟩ = some (.int .i64 q) := by rw [h.own.cellAt k (by omega), iC_at hk, hq]
  obtain ⟨N, hN⟩ : ∃ N, N = ps.length - k := ⟨_, rfl⟩
  have HN : Hid (N = ps.length - k) := hN
  have hm := h.most
  have h0 : 0 < N := by omega
  have h1 : N ≤ 1024 := by omega
  have h2 : (0 : Int) < (N : Int) := by omega
  have hz : ((N : Int) == 0) = false := by rw [beq_eq_false_iff_ne]; omega
  rw [← hN] at c0
  simp only [List.getElem?_toArray, List.getElem?_cons_zero] at c0
  clear h hx hk hq hN hc hm
  go_enter Try.func13, Try.ntmps13
  go_wp2_with (refine wpList_slice1 _ rfl (.tmp 22) rfl (by show _ = _; exact congrArg (fun z => Value.slice (some ⟨g', k, none⟩) z c) HN.out) HT.out HK.out ?_; intro u' ht'; have HT2 : Hid (TailOf (.slice (some ⟨g', 0, none⟩) ps.length cap) ps.length (k + 1) u') := ht'; obtain ⟨y2, c2, rfl, _⟩ := ht')
  go_ret2
  rw [mask16]
  exact ⟨rfl, _, H.out.step HK.out HT2.out, Turn.of_set (S := fun i => i = g) w (p := ⟨g, 0, none⟩) rfl _⟩

end Ix
end Go.Proofs.Ytnpgbiehnnekgaa
