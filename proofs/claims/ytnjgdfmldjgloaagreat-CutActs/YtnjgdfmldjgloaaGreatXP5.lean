/- The greatest of each group: slices.Chunk, greatest. -/
import Derived.Test.YtnjgdfmldjgloaaGreatXP3
import Derived.Test.YtnjgdfmldjgloaaGreatXP4
namespace Go.Proofs.YtnjgdfmldjgloaaGreat
open Go.RowKit Go.Shelf
open Pl
namespace Cu
attribute [local go_sem] Oper.semAt_some

set_option maxHeartbeats 1000000 in
/-- slices.Chunk(s, 16): both are boxed. -/
theorem chunk_in (n : Nat) (y : Option Addr) (m c : Nat) (w : World) :
    CallsIn Fence.wide n Tryz.prog 104 #[.slice y m c, .int .i64 16] w fun e w' => e = .returned (.func (.func 108) #[] #[.pointer (some ⟨w.heap.size, 0, none⟩), .pointer (some ⟨w.heap.size + 1, 0, none⟩)]) ∧ w' = (w.alloc (.cells #[.slice y m c] 112)).alloc (.cells #[.int .i64 16] 3) := by
  refine callsIn_of_wp Tryz.func104 rfl trivial ?_ rfl
  simp only [Tryz.ntmps104, List.size_toArray, List.length_cons, List.length_nil, Nat.reduceAdd, Nat.reduceSub, Array.replicate_succ, Array.replicate_zero, List.push_toArray, List.append_toArray, List.nil_append, List.cons_append]
  gi_wp2
  go_ret
  exact ⟨rfl, rfl⟩

/-- All below a bound lies as it lay, but one box. -/
def KpX (Bo n₁ : Nat) (A B : World) : Prop := ∀ k, k < n₁ → k ≠ Bo → B.heap[k]? = A.heap[k]?
theorem KpX.trans {Bo n₁ : Nat} {A B C : World} (h : KpX Bo n₁ A B) (h' : KpX Bo n₁ B C) : KpX Bo n₁ A C := fun k hk hne => (h' k hk hne).trans (h k hk hne)
theorem KpX.cell {Bo n₁ : Nat} {A B : World} (h : KpX Bo n₁ A B) {k : Nat} (hk : k < n₁) (hne : k ≠ Bo) (i : Nat) : B.cell? ⟨k, i, none⟩ = A.cell? ⟨k, i, none⟩ := World.cell?_of_block (h k hk hne)
theorem KpX.put {Bo n₁ : Nat} (W : World) (l : Nat) (o' : Obj) (hl : n₁ ≤ l) : KpX Bo n₁ W (W.putObj l o') := fun k hk _ => by
  unfold World.putObj
  simp only
  rw [Array.getElem?_setIfInBounds_ne (by omega)]
theorem KpX.refl {Bo n₁ : Nat} (W : World) : KpX Bo n₁ W W := fun _ _ _ => rfl
theorem KpX.of_below {Bo n₁ : Nat} {A B : World} (h : Below n₁ A B) : KpX Bo n₁ A B := fun k hk _ => h.block k hk
theorem KpX.of_turn {Bo n₁ : Nat} {A B : World} {S : Nat → Prop} (h : Turn S A B) (hA : n₁ ≤ A.heap.size) (hs : ∀ k, S k → k = Bo ∨ n₁ ≤ k) : KpX Bo n₁ A B := fun k hk hne => h.block k (by omega) (fun e => by rcases hs k e with h1 | h1 <;> omega)
/-- The two groups of seventeen. -/
def oF (i : Fin 2) : Nat := if i = 0 then 0 else 16
def lF (i : Fin 2) : Nat := if i = 0 then 16 else 1
def gC (g : Nat) (i : Fin 2) : Array Value := #[.slice (some ⟨g, oF i, none⟩) (lF i) (lF i)]
set_option maxRecDepth 100000 in
set_option maxHeartbeats 1000000 in
theorem chunk1_in (n : Nat) (hn : 1 ≤ n) (l Bs Bn Bo n₀ g cap : Nat) (J Jx : List (Fin 2) → World → Prop)
    (hY : ∀ pre x W, J pre W → pre.length < 2 → YieldAt Fence.wide (n - 1) Tryz.prog l (gC g x) W fun e W' => (e = .returned (.bool true) ∧ J (pre ++ [x]) W' ∧ KpX Bo n₀ W W') ∨ (e = .returned (.bool false) ∧ Jx (pre ++ [x]) W'))
    (W : World) (hJ : AbidesFrom W.heap.size J) (hs : W.cell? ⟨Bs, 0, none⟩ = some (.slice (some ⟨g, 0, none⟩) 17 cap)) (hc : 17 ≤ cap) (hk : W.cell? ⟨Bn, 0, none⟩ = some (.int .i64 16)) (hb1 : Bs < n₀) (hb2 : Bn < n₀) (hb3 : Bs ≠ Bo) (hb4 : Bn ≠ Bo) (h0 : J [] W) :
    CallsIn Fence.wide n Tryz.prog 108 #[.func (.yield l) #[] #[], .pointer (some ⟨Bs, 0, none⟩), .pointer (some ⟨Bn, 0, none⟩)] W fun e W' => (∃ v, e = .returned v) ∧ ((∃ ys : List (Fin 2), ys = [0, 1] ∧ J ys W') ∨ (∃ pre : List (Fin 2), True ∧ Jx pre W')) := by
  refine callsIn_of_wp Tryz.func108 rfl trivial ?_ rfl
  simp only [Tryz.ntmps108, List.size_toArray, List.length_cons, List.length_nil, Nat.reduceAdd, Nat.reduceSub, Array.replicate_succ, Array.replicate_zero, List.push_toArray, List.append_toArray, List.nil_append, List.cons_append]
  gi_wp2
  refine wpIn_loop_rounds 3 ?_
  have hs1 : W.drew.cell? ⟨Bs, 0, none⟩ = some (.slice (some ⟨g, 0, none⟩) 17 cap) := hs
  have hk1 : W.drew.cell? ⟨Bn, 0, none⟩ = some (.int .i64 16) := hk
  have hJ1 : J [] W.drew := hJ [] W W.drew none h0 ⟨rfl, rfl, rfl, Nat.le_refl _, fun _ _ _ => rfl⟩ (fun r e => by cases e)
  obtain ⟨fn, tmps, assign, body, hy, hR⟩ := hY [] 0 _ hJ1 (by simp)
  unfold gC oF lF at hy
  simp only [if_true] at hy
  rw [roundsIn_succ]
  gi_wp2
  gi_region
  gi_wp2
  refine hR.mono ?_
  rintro e W2 (⟨rfl, hJ2, hb⟩ | ⟨rfl, hx⟩)
  · have hs2 : W2.cell? ⟨Bs, 0, none⟩ = some (.slice (some ⟨g, 0, none⟩) 17 cap) := (hb.cell hb1 hb3 0).trans hs
    have hk2 : W2.cell? ⟨Bn, 0, none⟩ = some (.int .i64 16) := (hb.cell hb2 hb4 0).trans hk
    have hs3 : W2.drew.cell? ⟨Bs, 0, none⟩ = some (.slice (some ⟨g, 0, none⟩) 17 cap) := hs2
    have hk3 : W2.drew.cell? ⟨Bn, 0, none⟩ = some (.int .i64 16) := hk2
    have hJ3 : J ([] ++ [0]) W2.drew := hJ _ W2 W2.drew none hJ2 ⟨rfl, rfl, rfl, Nat.le_refl _, fun _ _ _ => rfl⟩ (fun r e => by cases e)
    obtain ⟨fn', tmps', assign', body', hy', hR'⟩ := hY _ 1 _ hJ3 (by simp)
    unfold gC oF lF at hy'
    simp only [show ¬ ((1 : Fin 2) = 0) by decide, if_false] at hy'
    gi_wp2
    rw [roundsIn_succ]
    gi_wp2
    gi_region
    gi_wp2
    refine hR'.mono ?_
    rintro e W3 (⟨rfl, hJ4, hb'⟩ | ⟨rfl, hx⟩)
    · have hs4 : W3.cell? ⟨Bs, 0, none⟩ = some (.slice (some ⟨g, 0, none⟩) 17 cap) := (hb'.cell hb1 hb3 0).trans hs3
      have hk4 : W3.cell? ⟨Bn, 0, none⟩ = some (.int .i64 16) := (hb'.cell hb2 hb4 0).trans hk3
      gi_wp2
      rw [roundsIn_succ]
      gi_wp2
      go_end0
      exact ⟨⟨_, rfl⟩, .inl ⟨_, rfl, hJ4⟩⟩
    · gi_wp2
      refine bodyPost_ret (results_none rfl _ _ _) rfl ?_
      exact ⟨⟨_, rfl⟩, .inr ⟨_, trivial, hx⟩⟩
  · gi_wp2
    refine bodyPost_ret (results_none rfl _ _ _) rfl ?_
    exact ⟨⟨_, rfl⟩, .inr ⟨_, trivial, hx⟩⟩
theorem chunk_stops (n : Nat) (hn : 1 ≤ n) (Bs Bn Bo n₀ g cap : Nat) (w : World) (hs : w.cell? ⟨Bs, 0, none⟩ = some (.slice (some ⟨g, 0, none⟩) 17 cap)) (hc : 17 ≤ cap) (hk : w.cell? ⟨Bn, 0, none⟩ = some (.int .i64 16)) (hb1 : Bs < n₀) (hb2 : Bn < n₀) (hb3 : Bs ≠ Bo) (hb4 : Bn ≠ Bo) (hw : n₀ ≤ w.heap.size) :
    SeqStopsK Fence.wide n Tryz.prog 108 #[.pointer (some ⟨Bs, 0, none⟩), .pointer (some ⟨Bn, 0, none⟩)] (gC g) (KpX Bo n₀) (fun ys : List (Fin 2) => ys = [0, 1]) (fun _ => True) 2 w := fun l J Jx W hW hJ _ hY h0 =>
  chunk1_in n hn l Bs Bn Bo n₀ g cap J Jx hY W hJ ((hW.cell (p := ⟨Bs, 0, none⟩) (by show Bs < _; omega)).trans hs) hc ((hW.cell (p := ⟨Bn, 0, none⟩) (by show Bn < _; omega)).trans hk) hb1 hb2 hb3 hb4 h0

theorem keeps_app {X Y : World} {B e z n : Nat} {v : Value} {xs : List Value} (ho : X.ownsRow B e z v n xs) (hg : X.grownBy Y v.ownBlock) : KeepsOthers X Y := KeepsOthers.of_grownBy hg (fun j o ej hj => by
  obtain ⟨cur, hc⟩ := own_cells ho ej
  have hc' : X.heap[j]? = some (.cells cur e (0, 0)) := hc
  rw [hc'] at hj; cases hj; rfl)
theorem seg_at {us : List Int} {i j : Nat} (hj : j < (seg us i).length) : ∃ (h : 16 * i + j < us.length), (seg us i)[j] = us[16 * i + j] := by
  have := seg_len us i
  refine ⟨by omega, ?_⟩
  have e : (seg us i)[j]? = us[16 * i + j]? := by
    have h : j < 16 := by omega
    unfold seg
    rw [List.getElem?_take_of_lt h, List.getElem?_drop]
  rw [List.getElem?_eq_getElem hj, List.getElem?_eq_getElem (by omega)] at e
  exact Option.some.inj e
set_option maxRecDepth 100000 in
set_option maxHeartbeats 2000000 in
theorem greatest_any (g cap : Nat) (us : List Int) (hl : us.length = 17) (w : World) (ho : w.ownsRow 0 3 1 (.slice (some ⟨g, 0, none⟩) 17 cap) 17 (iC us)) :
    Calls Tryz.prog 96 #[.slice (some ⟨g, 0, none⟩) 17 cap] w fun e w' => ∃ v', e = .returned v' ∧ w'.ownsRow w.heap.size 3 1 v' 2 (iC (lvl1 us)) ∧ Below w.heap.size w w' := by
  obtain ⟨i0, hi, hz0, hz1, hz2⟩ := info_parts infoI
  have HLV : Hid (iC (lvl1 us) = iC (([0, 1] : List (Fin 2)).map fun i => maxL (seg us i.val))) := by
    unfold Hid lvl1 grp
    rw [hl]
    rfl
  have hcap := (lies_own ho).2
  have hglt := (ho.lt g rfl).2
  have HC : Hid (∀ j (hj : j < us.length), w.cell? ⟨g, j, none⟩ = some (.int .i64 us[j])) := fun j hj => by
    have := (lies_own ho).1 j (.int .i64 us[j]) (by unfold iC; rw [List.getElem?_map, List.getElem?_eq_getElem hj]; rfl)
    simpa using this
  have hmax : Hid (∀ (x : Fin 2) (u : World), Below w.heap.size w u → Calls Tryz.prog 105 #[.slice (some ⟨g, oF x, none⟩) (lF x) (lF x)] u fun e w' => e = .returned (.int .i64 (maxL (seg us x.val))) ∧ w' = u) := fun x u hb => by
    have hx : x = 0 ∨ x = 1 := by omega
    have hsl := seg_len us x.val
    rw [hl] at hsl
    refine max_any g _ _ _ (seg us x.val) u ?_ ?_ ?_ (fun j hj => ?_)
    · rcases hx with rfl | rfl <;> exact hsl
    · rcases hx with rfl | rfl <;> decide
    · rcases hx with rfl | rfl <;> decide
    · obtain ⟨h1, h2⟩ := seg_at hj
      rw [h2]
      have e : oF x + j = 16 * x.val + j := by rcases hx with rfl | rfl <;> rfl
      rw [e]
      exact (hb.cell (p := ⟨g, 16 * x.val + j, none⟩) hglt).trans (HC.out _ h1)
  refine (callsIn_wide (n := 5)).1 ?_
  refine callsIn_of_wp_marks Tryz.func96 rfl trivial ?_ rfl
  simp only [Tryz.ntmps96, List.size_toArray, List.length_cons, List.length_nil, Nat.reduceAdd, Nat.reduceSub, Array.replicate_succ, Array.replicate_zero, List.push_toArray, List.append_toArray, List.nil_append, List.cons_append]
  gi_wp2_with (refine ⟨trivial, ?_⟩; gi_at_call 104; refine (chunk_in _ _ _ _ _).mono ?_; rintro e w' ⟨rfl, rfl⟩)
  obtain ⟨w3, hw3⟩ : ∃ w3, w3 = ((w.alloc (.cells #[.slice none 0 0] 112)).alloc (.cells #[.slice (some ⟨g, 0, none⟩) 17 cap] 112)).alloc (.cells #[.int .i64 16] 3) := ⟨_, rfl⟩
  have hz3 : w3.heap.size = w.heap.size + 3 := by rw [hw3]; simp
  have hb3 : Below w.heap.size w w3 := by rw [hw3]; exact lay (lay (lay (Below.refl _ _) _) _) _
  have x0 : Boxed w3 w.heap.size 112 (.slice none 0 0) := by rw [hw3]; exact ((Boxed.new w _ _).alloc _).alloc _
  have x1 : w3.cell? ⟨w.heap.size + 1, 0, none⟩ = some (.slice (some ⟨g, 0, none⟩) 17 cap) := by
    have := ((Boxed.new (w.alloc (.cells #[.slice none 0 0] 112)) 112 (.slice (some ⟨g, 0, none⟩) 17 cap)).alloc (.cells #[.int .i64 16] 3)).cell
    rw [World.size_alloc] at this
    rw [hw3]; exact this
  have x2 : w3.cell? ⟨w.heap.size + 2, 0, none⟩ = some (.int .i64 16) := by
    have := (Boxed.new ((w.alloc (.cells #[.slice none 0 0] 112)).alloc (.cells #[.slice (some ⟨g, 0, none⟩) 17 cap] 112)) 3 (.int .i64 16)).cell
    rw [World.size_alloc, World.size_alloc] at this
    rw [hw3]; exact this
  rw [← hw3]
  clear hw3
  refine wpIn_rangeFunc_ownG rfl (by omega) (gf := 108) (lb := #[.pointer (some ⟨w.heap.size + 1, 0, none⟩), .pointer (some ⟨w.heap.size + 1 + 1, 0, none⟩)]) rfl trivial (enters_of Tryz.func108 (by kernel_rfl) rfl)
    (chunk_stops 4 (by omega) (w.heap.size + 1) (w.heap.size + 2) w.heap.size (w.heap.size + 3) g cap w3 x1 hcap x2 (by omega) (by omega) (by omega) (by omega) (by omega)) (fun h k => h.trans k) (fun W l o o' hl _ _ _ => KpX.put W l o' (by omega)) (Below.refl _ _) (fun _ => rfl)
    (fun pre W => (∃ v, Boxed W w.heap.size 112 v ∧ W.ownsRow (w.heap.size + 3) 3 1 v pre.length (iC (pre.map fun i => maxL (seg us i.val))) ∧ True) ∧ Below w.heap.size w W ∧ w.heap.size + 3 ≤ W.heap.size) (fun _ _ _ => False)
    (OwnFrom.and (Own.from (holdsRow_own (w.heap.size + 3) w.heap.size 112 3 1 (fun pre : List (Fin 2) => pre.length) (fun pre => iC (pre.map fun i => maxL (seg us i.val))) (fun _ _ => True)) _) (OwnFrom.and (ownFrom_below (Nat.le_refl _) (by omega)) (fun _ _ _ _ hs hg _ => Nat.le_trans hs hg.size)))
    (fun _ _ _ _ _ h _ _ => h.elim) ⟨⟨_, x0, World.ownsRow_nil _ _ _ _, trivial⟩, hb3, by omega⟩
    (fun x => { tmps := #[.slice (some ⟨g, 0, none⟩) 17 cap, undef, .slice none 0 0, .pointer (some ⟨w.heap.size, 0, none⟩), .slice (some ⟨g, oF x, none⟩) (lF x) (lF x), .slice (some ⟨g, 0, none⟩) 17 cap, .func (.func 108) #[] #[.pointer (some ⟨w.heap.size + 1, 0, none⟩), .pointer (some ⟨w.heap.size + 1 + 1, 0, none⟩)], .slice (some ⟨g, oF x, none⟩) (lF x) (lF x), undef, undef, undef, undef, undef, undef], defers := [] }) ?assign ?body ?done ?stop
  case assign =>
    intro l x W K hK
    unfold gC
    gi_wp2
    exact hK
  case body =>
    rintro l pre x W ⟨⟨v, hv, hrow, _⟩, hB, hW3⟩ hlt
    have hsz := hv.lt
    have HROW : Hid (W.ownsRow (w.heap.size + 3) 3 1 v pre.length (iC (pre.map fun i => maxL (seg us i.val)))) := hrow
    have HBW : Hid (Below w.heap.size w W) := hB
    obtain ⟨y, c, rfl⟩ := row_shape hrow
    gi_wp2
    refine wpIn_region_round (S := fun _ => True) (by kernel_rfl) (by kernel_rfl) (by rintro ⟨_, _, h⟩; exact h) trivial (fun hHeld => ?_)
    have c0 : W.drew.cell? ⟨w.heap.size, 0, none⟩ = some (.slice y pre.length c) := hv.cell
    have c9 : (W.alloc (.cells #[.int .i64 (maxL (seg us x.val))] 3)).drew.cell? ⟨w.heap.size, 0, none⟩ = some (.slice y pre.length c) := (hv.alloc _).cell
    refine wpAnyH_take (i := 1) (v := .slice (some ⟨g, oF x, none⟩) (lF x) (lF x)) rfl (by kernel_rfl) (by kernel_rfl) (by kernel_rfl) (fun _ _ _ h => h) (Or.inl ⟨by rfl, ?_⟩) hHeld ?_
    · intro u hu
      go_simp
    simp only [Act.put, List.getElem_toArray, List.getElem_cons_succ, List.getElem_cons_zero, List.setIfInBounds_toArray, List.set_cons_zero, List.set_cons_succ]
    refine wpAnyH_ready (rs := [0, 2]) (by kernel_rfl) (by simp) ?_
    refine AllReadyH.cons rfl (fun K hK => ?_) (AllReadyH.cons rfl (fun K hK => ?_) AllReadyH.nil)
    · go_simp
      refine hK.out _ _ trivial (fun hHeld => ?_)
      clear hK K
      refine wpAnyH_ready (rs := [2]) (by kernel_rfl) (by simp) ?_
      refine AllReadyH.cons rfl (fun K hK => ?_) AllReadyH.nil
      go_simp
      refine (hmax.out x _ (HBW.out.drew)).mono ?_
      rintro e w' ⟨rfl, hw⟩
      obtain rfl := hw.symm
      go_simp
      refine hK.out _ _ trivial (fun hHeld => ?_)
      clear hK K
      refine wpAnyH_ready (rs := [3]) (by kernel_rfl) (by simp) ?_
      refine AllReadyH.cons rfl (fun K hK => ?_) AllReadyH.nil
      go_simp
      refine hK.out _ _ trivial (fun hHeld => ?_)
      clear hK K
      obtain ⟨X, hX⟩ : ∃ X, X = (W.alloc (.cells #[.int .i64 (maxL (seg us x.val))] 3)).drew := ⟨_, rfl⟩
      have kX : Blk X W.heap.size #[.int .i64 (maxL (seg us x.val))] 3 := by rw [hX]; exact Blk.new W _ _
      have bX : Below W.heap.size W X := by rw [hX]; exact ((lay (Below.refl _ _) _)).drew
      have vX : Boxed X w.heap.size 112 (.slice y pre.length c) := by rw [hX]; exact hv.alloc _
      rw [← hX]
      clear hX
      have HRX := own_past HROW.out bX
      refine wpAnyH_ready (rs := [4]) (by kernel_rfl) (by simp) ?_
      refine AllReadyH.cons rfl (fun K hK => ?_) AllReadyH.nil
      refine step_appG _ rfl (.tmp 8) (.tmp 11) 112 3 i0 _ 1 8 Tryz.underlying112 hi hz0 hz1 hz2 rfl (by decide) rfl (w.heap.size + 3) _ pre.length _ rfl HRX (.slice (some ⟨W.heap.size, 0, none⟩) 1 1) 1 [.int .i64 (maxL (seg us x.val))] rfl (Row.of_blk kX rfl 1 1) rfl (by simp [Value.oneCell']) (by omega) (by unfold maxLen; omega) (by have := bX.size; omega) ?_
      intro v2 w2 h1 h3 h4
      have vw : Boxed w2 w.heap.size 112 (.slice y pre.length c) := vX.kept h3 (vX.not_row (by decide) HRX)
      refine hK.out _ _ trivial (fun hHeld => ?_)
      clear hK K
      obtain ⟨y2, c2, rfl⟩ := row_shape h1
      simp only [Act.put, List.getElem_toArray, List.getElem_cons_succ, List.getElem_cons_zero, List.setIfInBounds_toArray, List.set_cons_zero, List.set_cons_succ]
      have c1 := vw.cell
      have f1 := vw.frozen
      have HK2 : KeepsOthers W (w2.setCell ⟨w.heap.size, 0, none⟩ (.slice y2 (pre.length + 1) c2)) := (((KeepsOthers.of_grownBy (row := none) ⟨bX.os, bX.tape, bX.output, bX.size, fun k hk _ => bX.block k hk⟩ (fun j o ej hj => by cases ej))).trans (keeps_app HRX h3)).trans (KeepsOthers.setCell _ _ _)
      have hlt2 : ∀ k, (Value.slice y pre.length c).ownBlock = some k → w.heap.size + 3 ≤ k := fun k hk => (hrow.lt k hk).1
      have T1 : Turn (fun k => k = w.heap.size ∨ w.heap.size + 3 ≤ k) W (w2.setCell ⟨w.heap.size, 0, none⟩ (.slice y2 (pre.length + 1) c2)) := ((Turn.of_below bX).trans (Turn.of_grown (S := fun k => w.heap.size + 3 ≤ k) h3 (fun k e => hlt2 k e)) (fun i hi => .inl (.inr hi))).trans (Turn.of_set (S := fun k => k = w.heap.size) w2 (p := ⟨w.heap.size, 0, none⟩) rfl _) (fun i e => .inl (.inl e))
      have HF : Hid (ownPostG w3.heap.size (KpX w.heap.size (w.heap.size + 3)) (fun (pre : List (Fin 2)) W => (∃ v, Boxed W w.heap.size 112 v ∧ W.ownsRow (w.heap.size + 3) 3 1 v pre.length (iC (pre.map fun i => maxL (seg us i.val))) ∧ True) ∧ Below w.heap.size w W ∧ w.heap.size + 3 ≤ W.heap.size) (fun _ _ _ => False) (pre ++ [x]) W .normal { tmps := #[], defers := [] } (w2.setCell ⟨w.heap.size, 0, none⟩ (.slice y2 (pre.length + 1) c2))) := by
        refine ⟨HK2.from _, KpX.of_turn T1 hW3 (fun k h => h), ⟨_, vw.set _, ?_, trivial⟩, Turn.below hB T1 hB.size (fun i hi => by omega), by have := T1.size; omega⟩
        rw [List.length_append, List.map_append, iC_app]
        exact (Turn.of_set (S := fun k => k = w.heap.size) w2 (p := ⟨w.heap.size, 0, none⟩) rfl _).row h1 (fun k hk e => by have := (h1.lt k hk).1; omega)
      refine wpAnyH_ready (rs := [5]) (by kernel_rfl) (by simp) ?_
      refine AllReadyH.cons rfl (fun K hK => ?_) AllReadyH.nil
      go_simp
      refine hK.out _ _ trivial (fun _ => ?_)
      refine wpAnyH_done (by kernel_rfl) ?_ _
      exact HF.out
    ·
      go_simp
      refine (hmax.out x _ (HBW.out.drew)).mono ?_
      rintro e w' ⟨rfl, hw⟩
      obtain rfl := hw.symm
      go_simp
      refine hK.out _ _ trivial (fun hHeld => ?_)
      clear hK K
      refine wpAnyH_ready (rs := [0, 3]) (by kernel_rfl) (by simp) ?_
      refine AllReadyH.cons rfl (fun K hK => ?_) (AllReadyH.cons rfl (fun K hK => ?_) AllReadyH.nil)
      · go_simp
        refine hK.out _ _ trivial (fun hHeld => ?_)
        clear hK K
        refine wpAnyH_ready (rs := [3]) (by kernel_rfl) (by simp) ?_
        refine AllReadyH.cons rfl (fun K hK => ?_) AllReadyH.nil
        go_simp
        refine hK.out _ _ trivial (fun hHeld => ?_)
        clear hK K
        obtain ⟨X, hX⟩ : ∃ X, X = (W.alloc (.cells #[.int .i64 (maxL (seg us x.val))] 3)).drew := ⟨_, rfl⟩
        have kX : Blk X W.heap.size #[.int .i64 (maxL (seg us x.val))] 3 := by rw [hX]; exact Blk.new W _ _
        have bX : Below W.heap.size W X := by rw [hX]; exact ((lay (Below.refl _ _) _)).drew
        have vX : Boxed X w.heap.size 112 (.slice y pre.length c) := by rw [hX]; exact hv.alloc _
        rw [← hX]
        clear hX
        have HRX := own_past HROW.out bX
        refine wpAnyH_ready (rs := [4]) (by kernel_rfl) (by simp) ?_
        refine AllReadyH.cons rfl (fun K hK => ?_) AllReadyH.nil
        refine step_appG _ rfl (.tmp 8) (.tmp 11) 112 3 i0 _ 1 8 Tryz.underlying112 hi hz0 hz1 hz2 rfl (by decide) rfl (w.heap.size + 3) _ pre.length _ rfl HRX (.slice (some ⟨W.heap.size, 0, none⟩) 1 1) 1 [.int .i64 (maxL (seg us x.val))] rfl (Row.of_blk kX rfl 1 1) rfl (by simp [Value.oneCell']) (by omega) (by unfold maxLen; omega) (by have := bX.size; omega) ?_
        intro v2 w2 h1 h3 h4
        have vw : Boxed w2 w.heap.size 112 (.slice y pre.length c) := vX.kept h3 (vX.not_row (by decide) HRX)
        refine hK.out _ _ trivial (fun hHeld => ?_)
        clear hK K
        obtain ⟨y2, c2, rfl⟩ := row_shape h1
        simp only [Act.put, List.getElem_toArray, List.getElem_cons_succ, List.getElem_cons_zero, List.setIfInBounds_toArray, List.set_cons_zero, List.set_cons_succ]
        have c1 := vw.cell
        have f1 := vw.frozen
        have HK2 : KeepsOthers W (w2.setCell ⟨w.heap.size, 0, none⟩ (.slice y2 (pre.length + 1) c2)) := (((KeepsOthers.of_grownBy (row := none) ⟨bX.os, bX.tape, bX.output, bX.size, fun k hk _ => bX.block k hk⟩ (fun j o ej hj => by cases ej))).trans (keeps_app HRX h3)).trans (KeepsOthers.setCell _ _ _)
        have hlt2 : ∀ k, (Value.slice y pre.length c).ownBlock = some k → w.heap.size + 3 ≤ k := fun k hk => (hrow.lt k hk).1
        have T1 : Turn (fun k => k = w.heap.size ∨ w.heap.size + 3 ≤ k) W (w2.setCell ⟨w.heap.size, 0, none⟩ (.slice y2 (pre.length + 1) c2)) := ((Turn.of_below bX).trans (Turn.of_grown (S := fun k => w.heap.size + 3 ≤ k) h3 (fun k e => hlt2 k e)) (fun i hi => .inl (.inr hi))).trans (Turn.of_set (S := fun k => k = w.heap.size) w2 (p := ⟨w.heap.size, 0, none⟩) rfl _) (fun i e => .inl (.inl e))
        have HF : Hid (ownPostG w3.heap.size (KpX w.heap.size (w.heap.size + 3)) (fun (pre : List (Fin 2)) W => (∃ v, Boxed W w.heap.size 112 v ∧ W.ownsRow (w.heap.size + 3) 3 1 v pre.length (iC (pre.map fun i => maxL (seg us i.val))) ∧ True) ∧ Below w.heap.size w W ∧ w.heap.size + 3 ≤ W.heap.size) (fun _ _ _ => False) (pre ++ [x]) W .normal { tmps := #[], defers := [] } (w2.setCell ⟨w.heap.size, 0, none⟩ (.slice y2 (pre.length + 1) c2))) := by
          refine ⟨HK2.from _, KpX.of_turn T1 hW3 (fun k h => h), ⟨_, vw.set _, ?_, trivial⟩, Turn.below hB T1 hB.size (fun i hi => by omega), by have := T1.size; omega⟩
          rw [List.length_append, List.map_append, iC_app]
          exact (Turn.of_set (S := fun k => k = w.heap.size) w2 (p := ⟨w.heap.size, 0, none⟩) rfl _).row h1 (fun k hk e => by have := (h1.lt k hk).1; omega)
        refine wpAnyH_ready (rs := [5]) (by kernel_rfl) (by simp) ?_
        refine AllReadyH.cons rfl (fun K hK => ?_) AllReadyH.nil
        go_simp
        refine hK.out _ _ trivial (fun _ => ?_)
        refine wpAnyH_done (by kernel_rfl) ?_ _
        exact HF.out
      · go_simp
        refine hK.out _ _ trivial (fun hHeld => ?_)
        clear hK K
        refine wpAnyH_ready (rs := [0]) (by kernel_rfl) (by simp) ?_
        refine AllReadyH.cons rfl (fun K hK => ?_) AllReadyH.nil
        go_simp
        refine hK.out _ _ trivial (fun hHeld => ?_)
        clear hK K
        obtain ⟨X, hX⟩ : ∃ X, X = (W.alloc (.cells #[.int .i64 (maxL (seg us x.val))] 3)).drew := ⟨_, rfl⟩
        have kX : Blk X W.heap.size #[.int .i64 (maxL (seg us x.val))] 3 := by rw [hX]; exact Blk.new W _ _
        have bX : Below W.heap.size W X := by rw [hX]; exact ((lay (Below.refl _ _) _)).drew
        have vX : Boxed X w.heap.size 112 (.slice y pre.length c) := by rw [hX]; exact hv.alloc _
        rw [← hX]
        clear hX
        have HRX := own_past HROW.out bX
        refine wpAnyH_ready (rs := [4]) (by kernel_rfl) (by simp) ?_
        refine AllReadyH.cons rfl (fun K hK => ?_) AllReadyH.nil
        refine step_appG _ rfl (.tmp 8) (.tmp 11) 112 3 i0 _ 1 8 Tryz.underlying112 hi hz0 hz1 hz2 rfl (by decide) rfl (w.heap.size + 3) _ pre.length _ rfl HRX (.slice (some ⟨W.heap.size, 0, none⟩) 1 1) 1 [.int .i64 (maxL (seg us x.val))] rfl (Row.of_blk kX rfl 1 1) rfl (by simp [Value.oneCell']) (by omega) (by unfold maxLen; omega) (by have := bX.size; omega) ?_
        intro v2 w2 h1 h3 h4
        have vw : Boxed w2 w.heap.size 112 (.slice y pre.length c) := vX.kept h3 (vX.not_row (by decide) HRX)
        refine hK.out _ _ trivial (fun hHeld => ?_)
        clear hK K
        obtain ⟨y2, c2, rfl⟩ := row_shape h1
        simp only [Act.put, List.getElem_toArray, List.getElem_cons_succ, List.getElem_cons_zero, List.setIfInBounds_toArray, List.set_cons_zero, List.set_cons_succ]
        have c1 := vw.cell
        have f1 := vw.frozen
        have HK2 : KeepsOthers W (w2.setCell ⟨w.heap.size, 0, none⟩ (.slice y2 (pre.length + 1) c2)) := (((KeepsOthers.of_grownBy (row := none) ⟨bX.os, bX.tape, bX.output, bX.size, fun k hk _ => bX.block k hk⟩ (fun j o ej hj => by cases ej))).trans (keeps_app HRX h3)).trans (KeepsOthers.setCell _ _ _)
        have hlt2 : ∀ k, (Value.slice y pre.length c).ownBlock = some k → w.heap.size + 3 ≤ k := fun k hk => (hrow.lt k hk).1
        have T1 : Turn (fun k => k = w.heap.size ∨ w.heap.size + 3 ≤ k) W (w2.setCell ⟨w.heap.size, 0, none⟩ (.slice y2 (pre.length + 1) c2)) := ((Turn.of_below bX).trans (Turn.of_grown (S := fun k => w.heap.size + 3 ≤ k) h3 (fun k e => hlt2 k e)) (fun i hi => .inl (.inr hi))).trans (Turn.of_set (S := fun k => k = w.heap.size) w2 (p := ⟨w.heap.size, 0, none⟩) rfl _) (fun i e => .inl (.inl e))
        have HF : Hid (ownPostG w3.heap.size (KpX w.heap.size (w.heap.size + 3)) (fun (pre : List (Fin 2)) W => (∃ v, Boxed W w.heap.size 112 v ∧ W.ownsRow (w.heap.size + 3) 3 1 v pre.length (iC (pre.map fun i => maxL (seg us i.val))) ∧ True) ∧ Below w.heap.size w W ∧ w.heap.size + 3 ≤ W.heap.size) (fun _ _ _ => False) (pre ++ [x]) W .normal { tmps := #[], defers := [] } (w2.setCell ⟨w.heap.size, 0, none⟩ (.slice y2 (pre.length + 1) c2))) := by
          refine ⟨HK2.from _, KpX.of_turn T1 hW3 (fun k h => h), ⟨_, vw.set _, ?_, trivial⟩, Turn.below hB T1 hB.size (fun i hi => by omega), by have := T1.size; omega⟩
          rw [List.length_append, List.map_append, iC_app]
          exact (Turn.of_set (S := fun k => k = w.heap.size) w2 (p := ⟨w.heap.size, 0, none⟩) rfl _).row h1 (fun k hk e => by have := (h1.lt k hk).1; omega)
        refine wpAnyH_ready (rs := [5]) (by kernel_rfl) (by simp) ?_
        refine AllReadyH.cons rfl (fun K hK => ?_) AllReadyH.nil
        go_simp
        refine hK.out _ _ trivial (fun _ => ?_)
        refine wpAnyH_done (by kernel_rfl) ?_ _
        exact HF.out
  case done =>
    rintro D xs W hD rfl ⟨⟨v, hv, hrow, _⟩, hB, hW3⟩ hK
    have hc := hv.cell
    gi_wp2
    refine ⟨by simp, .inl ⟨_, _, rfl, run_takeDeferred hK, ?_⟩⟩
    exact ⟨_, results_tmp rfl _ _ _, v, rfl, by rw [HLV.out]; exact own_base (ownsRow_putObj hrow _ hK rfl) (by omega), hB.trans (belowK_b (w := w) (Nat.le_refl _) W D _ _ (by omega) hK rfl rfl)⟩
  case stop =>
    rintro D c pre W hD _ hF
    exact hF.elim

end Cu
end Go.Proofs.YtnjgdfmldjgloaaGreat
