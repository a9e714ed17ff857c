/- A header as values; what fits and may of package head give. -/
import Derived.Test.YteonoplbmceekaaOctE
import Derived.Deep.WholeRow
import Derived.Deep.RegionHeld3
namespace Go.Proofs.Yteonoplbmceekaa
open Go.RowKit

theorem lay {w b : World} (h : Below w.heap.size w b) (o : Obj) : Below w.heap.size w (b.alloc o) := h.alloc h.size o
/-- A block as it was laid. -/
def Blk (w : World) (g : Nat) (C : Array Value) (t : TypeId) : Prop := w.heap[g]? = some (.cells C t (0, 0))
theorem Blk.cell {w : World} {g : Nat} {C : Array Value} {t : TypeId} (h : Blk w g C t) (i : Nat) : w.cell? ⟨g, i, none⟩ = C[i]? := cell_of_row w g i C t _ h
theorem Blk.frozen {w : World} {g : Nat} {C : Array Value} {t : TypeId} (h : Blk w g C t) (i : Nat) : w.frozen? ⟨g, i, none⟩ = false := by
  unfold Blk at h
  simp only [World.frozen?, h]
  simp
theorem Blk.drew {w w' : World} {g : Nat} {C : Array Value} {t : TypeId} (h : Blk w g C t) (hd : ∃ m, w' = w.drewN m) : Blk w' g C t := by
  obtain ⟨m, rfl⟩ := hd; exact h
theorem Blk.lt {w : World} {g : Nat} {C : Array Value} {t : TypeId} (h : Blk w g C t) : g < w.heap.size := (Array.getElem?_eq_some_iff.1 h).1
theorem Blk.below {w w' : World} {g : Nat} {C : Array Value} {t : TypeId} (h : Blk w g C t) (hb : Below w.heap.size w w') : Blk w' g C t := by
  unfold Blk; rw [hb.block g h.lt]; exact h
theorem Blk.alloc {w : World} {g : Nat} {C : Array Value} {t : TypeId} (h : Blk w g C t) (o : Obj) : Blk (w.alloc o) g C t := h.below ((Below.refl _ _).alloc (Nat.le_refl _) o)
theorem Blk.new (w : World) (C : Array Value) (t : TypeId) : Blk (w.alloc (.cells C t)) w.heap.size C t := heap_alloc_new w _
theorem Blk.set {w : World} {g : Nat} {C : Array Value} {t : TypeId} (h : Blk w g C t) (i : Nat) (v : Value) : Blk (w.setCell ⟨g, i, none⟩ v) g (C.setIfInBounds i v) t := heap_setCell_same w g i C t v h
theorem Blk.other {w : World} {g b : Nat} {C : Array Value} {t : TypeId} (h : Blk w g C t) (hb : g ≠ b) (i : Nat) (v : Value) : Blk (w.setCell ⟨b, i, none⟩ v) g C t := by
  unfold Blk; rw [heap_setCell_other w ⟨b, i, none⟩ g v hb]; exact h
/-- A world in which all that w holds lies as it lay. -/
structure Bel (w : World) where
  to : World
  h : Below w.heap.size w to

/-- A region that draws its order, whose calls lay new blocks alone: one walk, in the order of the text. -/
theorem wp_region_bel {P : Program} {id : Nat} {Q : Exit → Act → World → Prop} {a : Act} {w : World} {l : List Oper} (hm : P.follows .mixedOrders = true) (hB : Region.lexB .any l.toArray = true)
    (h : Nonempty (Bel w) → wpQuiet P l.toArray (fun w' => ∃ n : Bel w, w' = n.to) (fun a' => ∀ w', (∃ n : Bel w, w' = n.to) → Q .normal a' w') l a) : (Code.region id l.toArray true).wp P Q a w :=
  wp_region_quiet (C := fun w' => ∃ n : Bel w, w' = n.to) hm hB ⟨⟨_, below_drew ⟨1, rfl⟩⟩, rfl⟩ (h ⟨⟨w, Below.refl _ _⟩⟩)

theorem bel_same {P : Program} {f : FuncId} {args : Array Value} {w : World} {n : Bel w} {v : Value}
    (h : Calls P f args n.to fun e w' => e = .returned v ∧ w' = n.to) : Calls P f args n.to fun e w'' => e = .returned v ∧ ∃ m : Bel w, w'' = m.to :=
  h.mono fun _ _ ⟨he, hm⟩ => ⟨he, n, hm⟩
theorem bel_lays {P : Program} {f : FuncId} {args : Array Value} {w : World} {n : Bel w} {v : Value}
    (h : Calls P f args n.to fun e w' => e = .returned v ∧ Below n.to.heap.size n.to w') : Calls P f args n.to fun e w'' => e = .returned v ∧ ∃ m : Bel w, w'' = m.to :=
  h.mono fun _ w' ⟨he, hm⟩ => ⟨he, ⟨w', next n.h hm⟩, rfl⟩
theorem bel_out {w w' : World} (h : ∃ n : Bel w, w' = n.to) : Below w.heap.size w w' := by
  obtain ⟨n, rfl⟩ := h; exact n.h

/-- An api.Head. -/
def headV (id : Int) (qr : Bool) (op : Int) (aa tc rd ra : Bool) (z rc : Int) : Array Value := #[.int .i64 id, .bool qr, .int .i64 op, .bool aa, .bool tc, .bool rd, .bool ra, .int .i64 z, .int .i64 rc]
/-- Four counts. -/
def cntV (a b c d : Int) : Array Value := #[.int .i64 a, .int .i64 b, .int .i64 c, .int .i64 d]
/-- Is x from 0 up, and less than p? -/
def fitI (p x : Int) : Bool := decide (0 ≤ x) && decide (x < p)
/-- May a header with these numbers be written? -/
def mayH (id op z rc a b c d : Int) : Bool := fitI 65536 id && fitI 16 op && fitI 8 z && fitI 16 rc && fitI 65536 a && fitI 65536 b && fitI 65536 c && fitI 65536 d
theorem fit_iff {p x : Int} : fitI p x = true ↔ 0 ≤ x ∧ x < p := by unfold fitI; simp

theorem fits_any (x p : Int) (n : Int) (w : World) (h : (n = 16 ∧ p = 65536) ∨ (n = 4 ∧ p = 16) ∨ (n = 3 ∧ p = 8)) :
    Calls Try.prog 22 #[.int .i64 x, .int .u64 n] w fun e w' => e = .returned (.bool (fitI p x)) ∧ w' = w := by
  by_cases h0 : 0 ≤ x
  · by_cases h1 : x < p
    · rw [fit_iff.2 ⟨h0, h1⟩]
      rcases h with ⟨rfl, rfl⟩ | ⟨rfl, rfl⟩ | ⟨rfl, rfl⟩
      all_goals
        go_enter Try.func22, Try.ntmps22
        go_wp2
        go_ret
        exact ⟨rfl, rfl⟩
    · rw [show fitI p x = false from by unfold fitI; simp; omega]
      have h2 : decide (x < p) = false := by simpa using h1
      clear h1
      rcases h with ⟨rfl, rfl⟩ | ⟨rfl, rfl⟩ | ⟨rfl, rfl⟩
      all_goals
        go_enter Try.func22, Try.ntmps22
        go_wp2
        go_ret
        exact ⟨rfl, rfl⟩
  · rw [show fitI p x = false from by unfold fitI; simp; omega]
    have h2 : decide (0 ≤ x) = false := by simpa using h0
    clear h0 h
    go_enter Try.func22, Try.ntmps22
    go_wp2
    go_ret
    exact ⟨rfl, rfl⟩

theorem fits_as (x p n : Int) (b : Bool) (w : World) (hb : fitI p x = b) (h : (n = 16 ∧ p = 65536) ∨ (n = 4 ∧ p = 16) ∨ (n = 3 ∧ p = 8)) :
    Calls Try.prog 22 #[.int .i64 x, .int .u64 n] w fun e w' => e = .returned (.bool b) ∧ w' = w := hb ▸ fits_any x p n w h

theorem size3 : Try.t3.size = 1 := by kernel_rfl
theorem idx4 (a b c d : Int) (k : Nat) (hk : k < 4) (u : World) : (Instr.index 24 (.agg (cntV a b c d)) (.int .i64 (k : Int))).run Try.prog u = .ok (.int .i64 ([a, b, c, d].getD k 0)) u := by
  have : k = 0 ∨ k = 1 ∨ k = 2 ∨ k = 3 := by omega
  rcases this with rfl | rfl | rfl | rfl <;> simp [cntV, Instr.index, run_underlying Try.underlying24, asIntOf, go_sem, part, sizeOf, size3]

theorem mayH_count {id op z rc a b c d : Int} {k : Nat} (hk : k < 4) (h : fitI 65536 ([a, b, c, d].getD k 0) = false) : mayH id op z rc a b c d = false := by
  have : k = 0 ∨ k = 1 ∨ k = 2 ∨ k = 3 := by omega
  unfold mayH
  rcases this with rfl | rfl | rfl | rfl <;> simp only [List.getD_cons_zero, List.getD_cons_succ] at h <;> simp [h]
theorem mayH_rest {id op z rc a b c d : Int} (h : ∀ j, j < 4 → fitI 65536 ([a, b, c, d].getD j 0) = true) : mayH id op z rc a b c d = (fitI 65536 id && fitI 16 op && fitI 8 z && fitI 16 rc) := by
  have h0 := h 0 (by decide)
  have h1 := h 1 (by decide)
  have h2 := h 2 (by decide)
  have h3 := h 3 (by decide)
  simp only [List.getD_cons_zero, List.getD_cons_succ] at h0 h1 h2 h3
  unfold mayH
  simp [h0, h1, h2, h3]

set_option maxRecDepth 20000 in
set_option maxHeartbeats 4000000 in
theorem mayHead_any (id : Int) (qr : Bool) (op : Int) (aa tc rd ra : Bool) (z rc a b c d : Int) (w : World) :
    Calls Try.prog 13 #[.agg (headV id qr op aa tc rd ra z rc), .agg (cntV a b c d)] w fun e w' => e = .returned (.bool (mayH id op z rc a b c d)) ∧ Below w.heap.size w w' := by
  obtain ⟨C, hC⟩ : ∃ C, C = cntV a b c d := ⟨_, rfl⟩
  have hi := idx4 a b c d
  have hb := lay (lay (Below.refl w.heap.size w) (.cells #[.int .i64 id, .bool qr, .int .i64 op, .bool aa, .bool tc, .bool rd, .bool ra, .int .i64 z, .int .i64 rc] 23)) (.cells #[.int .i64 a, .int .i64 b, .int .i64 c, .int .i64 d] 24)
  unfold headV
  unfold cntV at hi ⊢
  clear hC C
  go_enter Try.func13, Try.ntmps13
  go_wp2
  go_loopw [8] (fun i wr => ∃ k : Nat, k ≤ 4 ∧ i = .int .i64 (k : Int) ∧ (∀ j, j < k → fitI 65536 ([a, b, c, d].getD j 0) = true) ∧ wr = ((w.alloc (.cells #[.int .i64 id, .bool qr, .int .i64 op, .bool aa, .bool tc, .bool rd, .bool ra, .int .i64 z, .int .i64 rc] 23)).alloc (.cells #[.int .i64 a, .int .i64 b, .int .i64 c, .int .i64 d] 24))) (fun i _ => 4 - (intOf i).toNat)
  case atStart => exact ⟨0, by decide, rfl, fun j hj => absurd hj (Nat.not_lt_zero _), rfl⟩
  case round =>
    obtain ⟨k, hk, rfl, hf, rfl⟩ := hrel
    by_cases h4 : k < 4
    · replace hi := hi k h4
      have HF : Hid (∀ j, j < k → fitI 65536 ([a, b, c, d].getD j 0) = true) := hf
      have HNo : Hid (fitI 65536 ([a, b, c, d].getD k 0) = false → mayH id op z rc a b c d = false) := fun h => mayH_count h4 h
      have HEx : Hid (fitI 65536 ([a, b, c, d].getD k 0) = true → ∀ j, j < k + 1 → fitI 65536 ([a, b, c, d].getD j 0) = true) := fun h j hj => by
        by_cases e : j = k
        · rw [e]; exact h
        · exact hf j (by omega)
      obtain ⟨x, hx⟩ : ∃ x, x = [a, b, c, d].getD k 0 := ⟨_, rfl⟩
      rw [← hx] at hi HNo HEx
      have h4' : (k : Int) < 4 := by omega
      clear hx hf
      cases hfx : fitI 65536 x with
      | true =>
        go_wp2_with (go_at_call 22; go_must (refine (fits_as x 65536 16 true _ hfx (.inl ⟨rfl, rfl⟩)).mono ?_); rintro e w' ⟨rfl, hw⟩; obtain rfl := hw.symm)
        go_roundw
        case rel => exact ⟨k + 1, by omega, by go_num, HEx.out hfx, trivial⟩
        case measure => simp [intOf]; omega
      | false =>
        go_wp2_with (go_at_call 22; go_must (refine (fits_as x 65536 16 false _ hfx (.inl ⟨rfl, rfl⟩)).mono ?_); rintro e w' ⟨rfl, hw⟩; obtain rfl := hw.symm)
        go_ret
        exact ⟨by rw [HNo.out hfx]; rfl, hb⟩
    · have h4' : k = 4 := by omega
      subst h4'
      have HR : Hid (mayH id op z rc a b c d = (fitI 65536 id && fitI 16 op && fitI 8 z && fitI 16 rc)) := mayH_rest hf
      clear hf hi hk h4
      have t1 : True := trivial
      have t2 : True := trivial
      cases h1 : fitI 65536 id with
      | false =>
        go_wp2_with (go_at_call 22; go_must (refine (fits_as id 65536 16 false _ h1 (.inl ⟨rfl, rfl⟩)).mono ?_); rintro e w' ⟨rfl, hw⟩; obtain rfl := hw.symm)
        go_ret
        exact ⟨by rw [HR.out, h1]; rfl, hb⟩
      | true =>
        cases h2 : fitI 16 op with
        | false =>
          go_wp2_with (first
            | (go_at_call 22; have _t := t1; go_must (refine (fits_as id 65536 16 true _ h1 (.inl ⟨rfl, rfl⟩)).mono ?_); rintro e w' ⟨rfl, hw⟩; obtain rfl := hw.symm; clear t1 _t)
            | (go_at_call 22; go_must (refine (fits_as op 16 4 false _ h2 (.inr (.inl ⟨rfl, rfl⟩))).mono ?_); rintro e w' ⟨rfl, hw⟩; obtain rfl := hw.symm))
          go_ret
          exact ⟨by rw [HR.out, h1, h2]; rfl, hb⟩
        | true =>
          cases h3 : fitI 8 z with
          | false =>
            go_wp2_with (first
              | (go_at_call 22; have _t := t1; go_must (refine (fits_as id 65536 16 true _ h1 (.inl ⟨rfl, rfl⟩)).mono ?_); rintro e w' ⟨rfl, hw⟩; obtain rfl := hw.symm; clear t1 _t)
              | (go_at_call 22; have _t := t2; go_must (refine (fits_as op 16 4 true _ h2 (.inr (.inl ⟨rfl, rfl⟩))).mono ?_); rintro e w' ⟨rfl, hw⟩; obtain rfl := hw.symm; clear t2 _t)
              | (go_at_call 22; go_must (refine (fits_as z 8 3 false _ h3 (.inr (.inr ⟨rfl, rfl⟩))).mono ?_); rintro e w' ⟨rfl, hw⟩; obtain rfl := hw.symm))
            go_ret
            exact ⟨by rw [HR.out, h1, h2, h3]; rfl, hb⟩
          | true =>
            have t3 : True := trivial
            obtain ⟨r, hr⟩ : ∃ r, fitI 16 rc = r := ⟨_, rfl⟩
            go_wp2_with (first
              | (go_at_call 22; have _t := t1; go_must (refine (fits_as id 65536 16 true _ h1 (.inl ⟨rfl, rfl⟩)).mono ?_); rintro e w' ⟨rfl, hw⟩; obtain rfl := hw.symm; clear t1 _t)
              | (go_at_call 22; have _t := t2; go_must (refine (fits_as op 16 4 true _ h2 (.inr (.inl ⟨rfl, rfl⟩))).mono ?_); rintro e w' ⟨rfl, hw⟩; obtain rfl := hw.symm; clear t2 _t)
              | (go_at_call 22; have _t := t3; go_must (refine (fits_as z 8 3 true _ h3 (.inr (.inr ⟨rfl, rfl⟩))).mono ?_); rintro e w' ⟨rfl, hw⟩; obtain rfl := hw.symm; clear t3 _t)
              | (go_at_call 22; go_must (refine (fits_as rc 16 4 r _ hr (.inr (.inl ⟨rfl, rfl⟩))).mono ?_); rintro e w' ⟨rfl, hw⟩; obtain rfl := hw.symm))
            go_ret
            exact ⟨by rw [HR.out, h1, h2, h3, hr]; rfl, hb⟩

end Go.Proofs.Yteonoplbmceekaa
