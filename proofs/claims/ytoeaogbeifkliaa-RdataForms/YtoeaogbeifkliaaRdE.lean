/- What Unsoa of package rdata gives, for every argument. -/
import Derived.Test.YtoeaogbeifkliaaRdD
import Derived.Deep.WholeRow
import Derived.Deep.RegionHeld3
namespace Go.Proofs.Ytoeaogbeifkliaa
open Go.RowKit
open Pl

theorem u32_val (s : ByteArray) (k : Nat) (w : World) (hs : s.size ≤ maxLen) (h : k + 4 ≤ s.size) :
    Calls Try.prog 33 #[.string s, .int .i64 (k : Int)] w fun e w' => e = .returned (.tuple #[.int .i64 (val s k 4), .int .i64 ((k : Int) + 4), .int .i64 0]) ∧ ∃ m, w' = w.drewN m := by
  rw [val_four s k h]
  exact u32_yes s k w hs h

/-- The first k of five numbers. -/
def numC (s : ByteArray) (K : Nat) : Nat → Array Value
  | 0 => #[.int .i64 0, .int .i64 0, .int .i64 0, .int .i64 0, .int .i64 0]
  | 1 => #[.int .i64 (val s K 4), .int .i64 0, .int .i64 0, .int .i64 0, .int .i64 0]
  | 2 => #[.int .i64 (val s K 4), .int .i64 (val s (K + 4) 4), .int .i64 0, .int .i64 0, .int .i64 0]
  | 3 => #[.int .i64 (val s K 4), .int .i64 (val s (K + 4) 4), .int .i64 (val s (K + 8) 4), .int .i64 0, .int .i64 0]
  | 4 => #[.int .i64 (val s K 4), .int .i64 (val s (K + 4) 4), .int .i64 (val s (K + 8) 4), .int .i64 (val s (K + 12) 4), .int .i64 0]
  | _ => #[.int .i64 (val s K 4), .int .i64 (val s (K + 4) 4), .int .i64 (val s (K + 8) 4), .int .i64 (val s (K + 12) 4), .int .i64 (val s (K + 16) 4)]
theorem num_set (s : ByteArray) (K k : Nat) (h : k < 5) : (numC s K k).setIfInBounds k (.int .i64 (val s (K + 4 * k) 4)) = numC s K (k + 1) := by
  have : k = 0 ∨ k = 1 ∨ k = 2 ∨ k = 3 ∨ k = 4 := by omega
  rcases this with rfl | rfl | rfl | rfl | rfl <;> rfl
theorem num_at (s : ByteArray) (K k : Nat) (h : k < 5) : (numC s K k)[k]? = some (.int .i64 0) := by
  have : k = 0 ∨ k = 1 ∨ k = 2 ∨ k = 3 ∨ k = 4 := by omega
  rcases this with rfl | rfl | rfl | rfl | rfl <;> rfl

/-- A block as it was laid. -/
def Blk (w : World) (g : Nat) (C : Array Value) (t : TypeId) : Prop := w.heap[g]? = some (.cells C t (0, 0))
theorem Blk.cell {w : World} {g : Nat} {C : Array Value} {t : TypeId} (h : Blk w g C t) (i : Nat) : w.cell? ⟨g, i, none⟩ = C[i]? := cell_of_row w g i C t _ h
theorem Blk.frozen {w : World} {g : Nat} {C : Array Value} {t : TypeId} (h : Blk w g C t) (i : Nat) : w.frozen? ⟨g, i, none⟩ = false := by
  unfold Blk at h
  simp only [World.frozen?, h]
  simp
theorem Blk.drew {w w' : World} {g : Nat} {C : Array Value} {t : TypeId} (h : Blk w g C t) (hd : ∃ m, w' = w.drewN m) : Blk w' g C t := by
  obtain ⟨m, rfl⟩ := hd; exact h
theorem Blk.lt {w : World} {g : Nat} {C : Array Value} {t : TypeId} (h : Blk w g C t) : g < w.heap.size := (Array.getElem?_eq_some_iff.1 h).1
theorem Blk.below {w w' : World} {g : Nat} {C : Array Value} {t : TypeId} (h : Blk w g C t) (hb : Below w.heap.size w w') : Blk w' g C t := by
  unfold Blk; rw [hb.block g h.lt]; exact h
theorem Blk.alloc {w : World} {g : Nat} {C : Array Value} {t : TypeId} (h : Blk w g C t) (o : Obj) : Blk (w.alloc o) g C t := h.below ((Below.refl _ _).alloc (Nat.le_refl _) o)
theorem Blk.new (w : World) (C : Array Value) (t : TypeId) : Blk (w.alloc (.cells C t)) w.heap.size C t := heap_alloc_new w _
theorem Blk.set {w : World} {g : Nat} {C : Array Value} {t : TypeId} (h : Blk w g C t) (i : Nat) (v : Value) : Blk (w.setCell ⟨g, i, none⟩ v) g (C.setIfInBounds i v) t := heap_setCell_same w g i C t v h
theorem Blk.other {w : World} {g b : Nat} {C : Array Value} {t : TypeId} (h : Blk w g C t) (hb : g ≠ b) (i : Nat) (v : Value) : Blk (w.setCell ⟨b, i, none⟩ v) g C t := by
  unfold Blk; rw [heap_setCell_other w ⟨b, i, none⟩ g v hb]; exact h

theorem Blk.past {w W w' : World} {g : Nat} {C : Array Value} {t : TypeId} (h : Blk w g C t) (hb : Below W.heap.size W w') (e : W.heap = w.heap) : Blk w' g C t := by
  have h' : Blk W g C t := by unfold Blk at h ⊢; rw [e]; exact h
  exact h'.below hb
theorem next_drew {w b W c : World} (h : Below w.heap.size w b) (k : Below W.heap.size W c) (e : W = b.drewN 1) : Below w.heap.size w c := by
  subst e; exact next (next h (below_drew ⟨1, rfl⟩)) k

/-- An empty api.Soa. -/
def soaZ : Array Value := soaV ⟨#[]⟩ ⟨#[]⟩ 0 0 0 0 0

theorem cell_far {w : World} {g b : Nat} (h : g ≠ b) (i j : Nat) (v : Value) : (w.setCell ⟨b, i, none⟩ v).cell? ⟨g, j, none⟩ = w.cell? ⟨g, j, none⟩ :=
  World.cell?_setCell_other _ _ _ _ (fun e => h (congrArg Addr.block e).symm)
/-- The seven cells of an api.Soa. -/
theorem Blk.seven {w : World} {g : Nat} {h m : ByteArray} {a b c d e : Int} (k : Blk w g (soaV h m a b c d e) 23) :
    w.cell? ⟨g, 0, none⟩ = some (.string h) ∧ w.cell? ⟨g, 1, none⟩ = some (.string m) ∧ w.cell? ⟨g, 2, none⟩ = some (.int .i64 a) ∧ w.cell? ⟨g, 3, none⟩ = some (.int .i64 b) ∧ w.cell? ⟨g, 4, none⟩ = some (.int .i64 c) ∧ w.cell? ⟨g, 5, none⟩ = some (.int .i64 d) ∧ w.cell? ⟨g, 6, none⟩ = some (.int .i64 e) :=
  ⟨k.cell 0, k.cell 1, k.cell 2, k.cell 3, k.cell 4, k.cell 5, k.cell 6⟩
theorem Blk.open7 {w : World} {g : Nat} {C : Array Value} (k : Blk w g C 23) :
    w.frozen? ⟨g, 0, none⟩ = false ∧ w.frozen? ⟨g, 1, none⟩ = false ∧ w.frozen? ⟨g, 2, none⟩ = false ∧ w.frozen? ⟨g, 3, none⟩ = false ∧ w.frozen? ⟨g, 4, none⟩ = false ∧ w.frozen? ⟨g, 5, none⟩ = false ∧ w.frozen? ⟨g, 6, none⟩ = false :=
  ⟨k.frozen 0, k.frozen 1, k.frozen 2, k.frozen 3, k.frozen 4, k.frozen 5, k.frozen 6⟩

set_option maxRecDepth 20000 in
theorem unsoa_yes (s : ByteArray) (a b K : Nat) (w : World) (hs : s.size ≤ maxLen) (h : soaL s.data.toList = some (a, b)) (hK : K = a + b) :
    Calls Try.prog 21 #[.string s] w fun e w' => e = .returned (.tuple #[.agg (soaV (s.extract 0 a) ((s.extract a s.size).extract 0 b) (val s K 4) (val s (K + 4) 4) (val s (K + 8) 4) (val s (K + 12) 4) (val s (K + 16) 4)), .int .i64 0]) ∧ Below w.heap.size w w' := by
  obtain ⟨h1, h2, h3⟩ := soa_some h
  have c1 := cut_some h1
  have c2 := cut_some h2
  rw [data_len] at h3 c1
  rw [List.length_drop, data_len] at c2
  have z1 : (s.extract 0 a).size = a := by simp; omega
  have z2 : ((s.extract a s.size).extract 0 b).size = b := by simp; omega
  obtain ⟨H, hH⟩ : ∃ H, H = s.extract 0 a := ⟨_, rfl⟩
  obtain ⟨M, hM⟩ : ∃ M, M = (s.extract a s.size).extract 0 b := ⟨_, rfl⟩
  have hn : ∀ w, Calls Try.prog 38 #[.string s] w fun e w' => e = .returned (.tuple #[.string H, .string M, .bool true]) ∧ ∃ m, w' = w.drewN m := fun w => by
    have := soaNames_as s _ w hs h
    rw [hH, hM]; exact this
  rw [← hH] at z1 ⊢
  rw [← hM] at z2 ⊢
  have hKs : K + 20 = s.size := by omega
  have HK : Hid (K = H.size + M.size) := by unfold Hid; omega
  have zH : H.size ≤ 255 := by omega
  have zM : M.size ≤ 255 := by omega
  clear hH hM h h1 h2 h3 c1 c2 z1 z2 hK
  have hb : Below w.heap.size w w := Below.refl _ _
  go_enter Try.func21, Try.ntmps21
  go_wp2_with (go_at_call 38; go_must (refine (hn _).mono ?_); rintro e w1 ⟨rfl, b1⟩; have k0 := (Blk.new w soaZ 23).drew b1; replace hb := next (lay hb _) (below_drew b1))
  have g0lt : w.heap.size < w1.heap.size := k0.lt
  have k1 := Blk.new w1 (numC s K 0) 70
  have k2 := k0.alloc (.cells (numC s K 0) 70)
  replace hb := lay hb (.cells (numC s K 0) 70)
  obtain ⟨g, hg⟩ : ∃ g, g = w1.heap.size := ⟨_, rfl⟩
  obtain ⟨g0, hg0⟩ : ∃ g0, g0 = w.heap.size := ⟨_, rfl⟩
  rw [← hg] at k1 g0lt ⊢
  rw [← hg0] at k2 g0lt
  have hgb : w.heap.size ≤ g0 := by omega
  have e0 : (⟨w.heap.size, 0, none⟩ : Addr) = ⟨g0, 0, none⟩ := by rw [hg0]
  rw [e0]
  have HG0 : Hid (g0 = w.heap.size) := hg0
  clear hg hg0 k0 b1 e0
  go_loopw [8, 24] (fun p i wr => ∃ k : Nat, k ≤ 5 ∧ p = .int .i64 ((K + 4 * k : Nat) : Int) ∧ i = .int .i64 (k : Int) ∧ Blk wr g (numC s K k) 70 ∧ Blk wr g0 soaZ 23 ∧ Below w.heap.size w wr) (fun _ i _ => 5 - (intOf i).toNat)
  case atStart => exact ⟨0, by decide, by rw [HK.out]; go_num, rfl, k1, k2, hb⟩
  case round =>
    clear hb k1 k2
    obtain ⟨k, hk, rfl, rfl, k1, k2, hb⟩ := hrel
    by_cases h5 : k < 5
    · have hu := fun u => u32_val s (K + 4 * k) u hs (by omega)
      have h5' : (k : Int) < 5 := by omega
      have hat := num_at s K k h5
      have HN : Hid ((numC s K k).setIfInBounds k (.int .i64 (val s (K + 4 * k) 4)) = numC s K (k + 1)) := num_set s K k h5
      obtain ⟨v, hv⟩ : ∃ v, v = val s (K + 4 * k) 4 := ⟨_, rfl⟩
      rw [← hv] at hu HN
      clear hv
      go_wp2_with (go_at_call 33; go_must (refine (hu _).mono ?_); rintro e w2 ⟨rfl, b2⟩; have K1 := k1.drew b2; have K2 := k2.drew b2; replace hb := next hb (below_drew b2); have hcell : w2.cell? ⟨g, k, none⟩ = some (.int .i64 0) := (K1.cell k).trans hat; have hfro := K1.frozen k; clear b2)
      go_roundw
      case rel => exact ⟨k + 1, by omega, by go_num, by go_num, HN.out ▸ K1.set k (.int .i64 v), K2.other (by omega) k _, hb.setCell (by show w.heap.size ≤ g; omega) _⟩
      case measure => simp [intOf]; omega
    · have h5' : k = 5 := by omega
      subst h5'
      clear h5 hk hn
      have c0 := k1.cell 0
      have c1 := k1.cell 1
      have c2 := k1.cell 2
      have c3 := k1.cell 3
      have c4 := k1.cell 4
      obtain ⟨n0, hn0⟩ : ∃ n, n = val s K 4 := ⟨_, rfl⟩
      obtain ⟨n1, hn1⟩ : ∃ n, n = val s (K + 4) 4 := ⟨_, rfl⟩
      obtain ⟨n2, hn2⟩ : ∃ n, n = val s (K + 8) 4 := ⟨_, rfl⟩
      obtain ⟨n3, hn3⟩ : ∃ n, n = val s (K + 12) 4 := ⟨_, rfl⟩
      obtain ⟨n4, hn4⟩ : ∃ n, n = val s (K + 16) 4 := ⟨_, rfl⟩
      simp only [numC, ← hn0, ← hn1, ← hn2, ← hn3, ← hn4] at k1 c0 c1 c2 c3 c4
      simp only [List.getElem?_toArray, List.getElem?_cons_zero, List.getElem?_cons_succ] at c0 c1 c2 c3 c4
      have HN : Hid (n0 = val s K 4 ∧ n1 = val s (K + 4) 4 ∧ n2 = val s (K + 8) 4 ∧ n3 = val s (K + 12) 4 ∧ n4 = val s (K + 16) 4) := ⟨hn0, hn1, hn2, hn3, hn4⟩
      clear hn0 hn1 hn2 hn3 hn4
      have hne : g ≠ g0 := by omega
      go_wp2
      go_region_held3 (fun w' => w'.cell? ⟨g, 0, none⟩ = some (.int .i64 n0) ∧ w'.cell? ⟨g, 1, none⟩ = some (.int .i64 n1) ∧ w'.cell? ⟨g, 2, none⟩ = some (.int .i64 n2) ∧ w'.cell? ⟨g, 3, none⟩ = some (.int .i64 n3) ∧ w'.cell? ⟨g, 4, none⟩ = some (.int .i64 n4)) (first | (simp only [World.cell?_drew, c0, c1, c2, c3, c4, and_self]; done) | (simp only [c30, c31, c32, c33, c34, and_self]; done) | (simp only [c40, c41, c42, c43, c44, and_self]; done) | (simp only [cell_far hne, c40, c41, c42, c43, c44, and_self]; done))
        (first
          | (go_at_call_of 37 (#[Value.string H]); refine (clone_any H _ (by omega)).mono ?_; rintro e w3 ⟨rfl, b3⟩; have k3 := k1.past b3 rfl; have z3 := k2.past b3 rfl; have hb3 := next_drew hb b3 rfl; have c30 : w3.cell? ⟨g, 0, none⟩ = some (.int .i64 n0) := (k3.cell 0).trans rfl; have c31 : w3.cell? ⟨g, 1, none⟩ = some (.int .i64 n1) := (k3.cell 1).trans rfl; have c32 : w3.cell? ⟨g, 2, none⟩ = some (.int .i64 n2) := (k3.cell 2).trans rfl; have c33 : w3.cell? ⟨g, 3, none⟩ = some (.int .i64 n3) := (k3.cell 3).trans rfl; have c34 : w3.cell? ⟨g, 4, none⟩ = some (.int .i64 n4) := (k3.cell 4).trans rfl; clear b3)
          | (go_at_call 37; refine (clone_any M _ (by omega)).mono ?_; rintro e w4 ⟨rfl, b4⟩; have k4 := k3.below b4; have z4 := z3.below b4; have hb4 := next hb3 b4; have c40 : w4.cell? ⟨g, 0, none⟩ = some (.int .i64 n0) := (k4.cell 0).trans rfl; have c41 : w4.cell? ⟨g, 1, none⟩ = some (.int .i64 n1) := (k4.cell 1).trans rfl; have c42 : w4.cell? ⟨g, 2, none⟩ = some (.int .i64 n2) := (k4.cell 2).trans rfl; have c43 : w4.cell? ⟨g, 3, none⟩ = some (.int .i64 n3) := (k4.cell 3).trans rfl; have c44 : w4.cell? ⟨g, 4, none⟩ = some (.int .i64 n4) := (k4.cell 4).trans rfl; clear b4; obtain ⟨f0, f1, f2, f3, f4, f5, f6⟩ := Blk.seven z4; obtain ⟨e0, e1, e2, e3, e4, e5, e6⟩ := Blk.open7 z4))
      have q := ((((((z4.set 0 (.string H)).set 1 (.string M)).set 2 (.int .i64 n0)).set 3 (.int .i64 n1)).set 4 (.int .i64 n2)).set 5 (.int .i64 n3)).set 6 (.int .i64 n4)
      have qb := ((((((hb4.setCell (p := ⟨g0, 0, none⟩) hgb (.string H)).setCell (p := ⟨g0, 1, none⟩) hgb (.string M)).setCell (p := ⟨g0, 2, none⟩) hgb (.int .i64 n0)).setCell (p := ⟨g0, 3, none⟩) hgb (.int .i64 n1)).setCell (p := ⟨g0, 4, none⟩) hgb (.int .i64 n2)).setCell (p := ⟨g0, 5, none⟩) hgb (.int .i64 n3)).setCell (p := ⟨g0, 6, none⟩) hgb (.int .i64 n4)
      obtain ⟨q0, q1, q2, q3, q4, q5, q6⟩ := Blk.seven (h := H) (m := M) (a := n0) (b := n1) (c := n2) (d := n3) (e := n4) q
      revert q0 q1 q2 q3 q4 q5 q6 qb
      generalize ((((((w4.setCell ⟨g0, 0, none⟩ (.string H)).setCell ⟨g0, 1, none⟩ (.string M)).setCell ⟨g0, 2, none⟩ (.int .i64 n0)).setCell ⟨g0, 3, none⟩ (.int .i64 n1)).setCell ⟨g0, 4, none⟩ (.int .i64 n2)).setCell ⟨g0, 5, none⟩ (.int .i64 n3)).setCell ⟨g0, 6, none⟩ (.int .i64 n4) = W at q ⊢
      intro qb q6 q5 q4 q3 q2 q1 q0
      clear q z3 z4 k3 k4 k1 k2 f0 f1 f2 f3 f4 f5 f6 e0 e1 e2 e3 e4 e5 e6
      go_wp2
      refine bodyPost_ret (v := .tuple #[.agg (soaV H M n0 n1 n2 n3 n4), .int .i64 0]) (by simp [results, Try.results21, go_sem, q0, q1, q2, q3, q4, q5, q6, soaV]) rfl ⟨?_, qb⟩
      obtain ⟨r0, r1, r2, r3, r4⟩ := HN.out
      rw [r0, r1, r2, r3, r4]

set_option maxRecDepth 20000 in
theorem unsoa_no (s : ByteArray) (w : World) (hs : s.size ≤ maxLen) (h : soaL s.data.toList = none) :
    Calls Try.prog 21 #[.string s] w fun e w' => e = .returned (.tuple #[.agg soaZ, .int .i64 400]) ∧ Below w.heap.size w w' := by
  have hn : ∀ w, Calls Try.prog 38 #[.string s] w fun e w' => e = .returned (.tuple #[.string ⟨#[]⟩, .string ⟨#[]⟩, .bool false]) ∧ ∃ m, w' = w.drewN m := fun w => soaNames_as s _ w hs h
  have hb : Below w.heap.size w w := Below.refl _ _
  go_enter Try.func21, Try.ntmps21
  go_wp2_with (go_at_call 38; go_must (refine (hn _).mono ?_); rintro e w1 ⟨rfl, b1⟩; have z4 := (Blk.new w soaZ 23).drew b1; replace hb := next (lay hb _) (below_drew b1); obtain ⟨f0, f1, f2, f3, f4, f5, f6⟩ := Blk.seven z4; obtain ⟨e0, e1, e2, e3, e4, e5, e6⟩ := Blk.open7 z4; clear b1)
  have q := ((((((z4.set 0 (.string ⟨#[]⟩)).set 1 (.string ⟨#[]⟩)).set 2 (.int .i64 0)).set 3 (.int .i64 0)).set 4 (.int .i64 0)).set 5 (.int .i64 0)).set 6 (.int .i64 0)
  have hgb := Nat.le_refl w.heap.size
  have qb := ((((((hb.setCell (p := ⟨w.heap.size, 0, none⟩) hgb (.string ⟨#[]⟩)).setCell (p := ⟨w.heap.size, 1, none⟩) hgb (.string ⟨#[]⟩)).setCell (p := ⟨w.heap.size, 2, none⟩) hgb (.int .i64 0)).setCell (p := ⟨w.heap.size, 3, none⟩) hgb (.int .i64 0)).setCell (p := ⟨w.heap.size, 4, none⟩) hgb (.int .i64 0)).setCell (p := ⟨w.heap.size, 5, none⟩) hgb (.int .i64 0)).setCell (p := ⟨w.heap.size, 6, none⟩) hgb (.int .i64 0)
  obtain ⟨q0, q1, q2, q3, q4, q5, q6⟩ := Blk.seven (h := ⟨#[]⟩) (m := ⟨#[]⟩) (a := 0) (b := 0) (c := 0) (d := 0) (e := 0) q
  refine bodyPost_ret (v := .tuple #[.agg soaZ, .int .i64 400]) (by simp [results, Try.results21, go_sem, q0, q1, q2, q3, q4, q5, q6, soaV, soaZ]) rfl ⟨rfl, qb⟩

end Go.Proofs.Ytoeaogbeifkliaa
