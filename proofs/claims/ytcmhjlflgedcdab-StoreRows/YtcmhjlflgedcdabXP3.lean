/- The store's small functions: isWrong, isLive, keyOf, order. -/
import Derived.Test.YtcmhjlflgedcdabXP1
import Derived.Test.YtcmhjlflgedcdabXP2
import Derived.Deep.DeepCutAuto
import Derived.Deep.RegionHeld3
import Derived.Laws.StructEq
import Derived.Laws.IdiomRangeMap
import Derived.Deep.RegionLaw
namespace Go.Proofs.Ytcmhjlflgedcdab
open Go.RowKit
open Pl

theorem isLive_any (n : ByteArray) (t l r u now : Int) (d : Value) (w : World) (_hd : d.oneCell' = true) :
    Calls Try.prog 30 #[.agg #[.string n, .int .i64 t, .int .i64 l, d, .int .i64 r, .int .i64 u], .int .i64 now] w fun e w' => e = .returned (.bool (decide (now < u))) ∧ Below w.heap.size w w' := by
  go_enter Try.func30, Try.ntmps30
  go_wp2
  go_ret
  exact ⟨rfl, lay (Below.refl _ _) _⟩

theorem keyOf_any (n : ByteArray) (t : Int) (w : World) (hn : n.size ≤ maxLen) :
    Calls Try.prog 17 #[.string n, .int .i64 t] w fun e w' => e = .returned (kyV (fdB n) t) ∧ Below w.heap.size w w' := by
  unfold kyV fdB
  have hb : Below w.heap.size w (w.alloc (.cells #[.string ⟨#[]⟩, .int .i64 0] 56)) := lay (Below.refl _ _) _
  have hk := Blk.new w #[.string ⟨#[]⟩, .int .i64 0] 56
  go_enter Try.func17, Try.ntmps17
  go_wp2_with (first
    | (go_at_call 29; go_must (refine (fold_any _ _ hn).mono ?_); rintro e w1 ⟨rfl, b1⟩; replace hk := hk.below b1; replace hb := next hb b1)
    | (refine wpList_storeS _ rfl (.tmp 4) (.tmp 8) 56 rfl w.heap.size _ _ 56 rfl rfl hk (by kernel_rfl) rfl (by simp [Value.oneCell']) ?_; intro w2 k2 t2 _ _))
  refine bodyPost_ret (v := kyV (fdB n) t) (ret_s rfl rfl k2 ⟨_, Try.underlying56⟩ (by kernel_rfl)) rfl ⟨rfl, t2.one_below hb (Nat.le_refl _)⟩

/-- What order gives, what it lays and draws. -/
theorem order_d (a b : ByteArray) (s t : Int) (w : World) (ha : a.size ≤ maxLen) (hb : b.size ≤ maxLen) :
    Calls Try.prog 24 #[.agg #[.string a, .int .i64 s], .agg #[.string b, .int .i64 t]] w fun e w' => e = .returned (.int .i64 (cK a s b t)) ∧ Below w.heap.size w w' ∧ w.drawn ≤ w'.drawn := by
  have hbel : Below w.heap.size w ((w.alloc (.cells #[.string a, .int .i64 s] 56)).alloc (.cells #[.string b, .int .i64 t] 56)) := lay (lay (Below.refl _ _) _) _
  have k1 := (Blk.new w #[.string a, .int .i64 s] 56).alloc (.cells #[.string b, .int .i64 t] 56)
  have k2 := Blk.new (w.alloc (.cells #[.string a, .int .i64 s] 56)) #[.string b, .int .i64 t] 56
  have e2 : (w.alloc (.cells #[.string a, .int .i64 s] 56)).heap.size = w.heap.size + 1 := by simp
  rw [e2] at k2
  by_cases hz : cmpN a.data.toList b.data.toList = 0
  · have HC : Hid (cK a s b t = sgn s t) := by unfold Hid cK; rw [if_pos hz]
    have HZ : Hid (cmpN a.data.toList b.data.toList = 0) := hz
    clear hz
    have hcmp : ∀ u : World, Calls Try.prog 34 #[.string a, .string b] u fun e w' => e = .returned (.int .i64 0) ∧ Below u.heap.size u w' ∧ u.drawn ≤ w'.drawn := fun u => by have := compare_d a b u ha hb; rw [HZ.out] at this; exact this
    go_enter Try.func24, Try.ntmps24
    go_wp2_with (first
      | (go_at_call 34; go_must (refine (hcmp _).mono ?_); rintro e w1 ⟨rfl, b1, d1⟩; have c1 := (k1.below b1).cell 1; have c2 := (k2.below b1).cell 1; simp only [List.getElem?_toArray, List.getElem?_cons_succ, List.getElem?_cons_zero] at c1 c2)
      | (go_at_call 35; go_must (refine (cmpI_any _ _ _).mono ?_); rintro e w' ⟨rfl, hw⟩; obtain rfl := hw.symm))
    go_ret
    exact ⟨ret_int HC.out.symm, next hbel b1, d1⟩
  · have HC : Hid (cK a s b t = cmpN a.data.toList b.data.toList) := by unfold Hid cK; rw [if_neg hz]
    have hz2 : (cmpN a.data.toList b.data.toList != 0) = true := by simpa using hz
    clear hz
    go_enter Try.func24, Try.ntmps24
    go_wp2_with (go_at_call 34; go_must (refine (compare_d a b _ ha hb).mono ?_); rintro e w1 ⟨rfl, b1, d1⟩)
    go_ret
    exact ⟨ret_int HC.out.symm, next hbel b1, d1⟩

theorem isWrong_any (n : ByteArray) (t l r u now : Int) (y : Option Addr) (c k : Nat) (ds : List ByteArray) (w : World) (hn : n.size ≤ maxLen) (hk : k = ds.length) (b : Bool) (hb : mayE ⟨n, t, l, ds, r, u⟩ now = b) :
    Calls Try.prog 16 #[.agg #[.string n, .int .i64 t, .int .i64 l, .slice y k c, .int .i64 r, .int .i64 u], .int .i64 now] w fun e w' => e = .returned (.bool (!b)) ∧ Below w.heap.size w w' := by
  have hds : decide (ds ≠ []) = decide (¬ k = 0) := by rw [hk]; cases ds <;> simp
  have HB : Hid ((isName n.data.toList && decide (1 ≤ t) && decide (t ≤ 65535) && decide (¬ k = 0) && decide (1 ≤ r) && decide (r ≤ 3) && decide (now < u) && decide (0 ≤ now) && decide (now ≤ 1099511627776)) = b) := by
    unfold mayE at hb
    rw [hds] at hb
    exact hb
  clear hb hds hk
  cases h0 : isName n.data.toList with
  | false =>
    have hb0 : b = false := by have := HB.out; rw [h0] at this; simpa using this.symm
    subst hb0
    go_enter Try.func16, Try.ntmps16
    go_wp2_with (go_at_call 28; go_must (refine (may_as _ false _ hn h0).mono ?_); rintro e w' ⟨rfl, hw⟩; obtain rfl := hw.symm)
    go_ret
    exact ⟨rfl, lay (Below.refl _ _) _⟩
  | true =>
    by_cases c0 : t < 1
    · have hb0 : b = false := by have := HB.out; rw [show decide (1 ≤ t) = false from by simp; omega] at this; simp at this; exact this
      subst hb0
      go_enter Try.func16, Try.ntmps16
      go_wp2_with (go_at_call 28; go_must (refine (may_as _ true _ hn h0).mono ?_); rintro e w' ⟨rfl, hw⟩; obtain rfl := hw.symm)
      go_ret
      exact ⟨rfl, lay (Below.refl _ _) _⟩
    · have d0 : decide (t < 1) = false := by simp; omega
      by_cases c1 : 65535 < t
      · have hb0 : b = false := by have := HB.out; rw [show decide (t ≤ 65535) = false from by simp; omega] at this; simp at this; exact this
        subst hb0
        go_enter Try.func16, Try.ntmps16
        go_wp2_with (go_at_call 28; go_must (refine (may_as _ true _ hn h0).mono ?_); rintro e w' ⟨rfl, hw⟩; obtain rfl := hw.symm)
        go_ret
        exact ⟨rfl, lay (Below.refl _ _) _⟩
      · have d1 : decide (65535 < t) = false := by simp; omega
        by_cases c2 : k = 0
        · have hb0 : b = false := by have := HB.out; rw [show decide (¬ k = 0) = false from by simp; omega] at this; simp at this; exact this
          subst hb0
          subst c2
          go_enter Try.func16, Try.ntmps16
          go_wp2_with (go_at_call 28; go_must (refine (may_as _ true _ hn h0).mono ?_); rintro e w' ⟨rfl, hw⟩; obtain rfl := hw.symm)
          go_ret
          exact ⟨rfl, lay (Below.refl _ _) _⟩
        · have d2 : ((k : Int) == 0) = false := by simp; omega
          by_cases c3 : r < 1
          · have hb0 : b = false := by have := HB.out; rw [show decide (1 ≤ r) = false from by simp; omega] at this; simp at this; exact this
            subst hb0
            go_enter Try.func16, Try.ntmps16
            go_wp2_with (go_at_call 28; go_must (refine (may_as _ true _ hn h0).mono ?_); rintro e w' ⟨rfl, hw⟩; obtain rfl := hw.symm)
            go_ret
            exact ⟨rfl, lay (Below.refl _ _) _⟩
          · have d3 : decide (r < 1) = false := by simp; omega
            by_cases c4 : 3 < r
            · have hb0 : b = false := by have := HB.out; rw [show decide (r ≤ 3) = false from by simp; omega] at this; simp at this; exact this
              subst hb0
              go_enter Try.func16, Try.ntmps16
              go_wp2_with (go_at_call 28; go_must (refine (may_as _ true _ hn h0).mono ?_); rintro e w' ⟨rfl, hw⟩; obtain rfl := hw.symm)
              go_ret
              exact ⟨rfl, lay (Below.refl _ _) _⟩
            · have d4 : decide (3 < r) = false := by simp; omega
              by_cases c5 : u ≤ now
              · have hb0 : b = false := by have := HB.out; rw [show decide (now < u) = false from by simp; omega] at this; simp at this; exact this
                subst hb0
                go_enter Try.func16, Try.ntmps16
                go_wp2_with (go_at_call 28; go_must (refine (may_as _ true _ hn h0).mono ?_); rintro e w' ⟨rfl, hw⟩; obtain rfl := hw.symm)
                go_ret
                exact ⟨rfl, lay (Below.refl _ _) _⟩
              · have d5 : decide (u ≤ now) = false := by simp; omega
                by_cases c6 : now < 0
                · have hb0 : b = false := by have := HB.out; rw [show decide (0 ≤ now) = false from by simp; omega] at this; simp at this; exact this
                  subst hb0
                  go_enter Try.func16, Try.ntmps16
                  go_wp2_with (go_at_call 28; go_must (refine (may_as _ true _ hn h0).mono ?_); rintro e w' ⟨rfl, hw⟩; obtain rfl := hw.symm)
                  go_ret
                  exact ⟨rfl, lay (Below.refl _ _) _⟩
                · have d6 : decide (now < 0) = false := by simp; omega
                  by_cases c7 : 1099511627776 < now
                  · have hb0 : b = false := by have := HB.out; rw [show decide (now ≤ 1099511627776) = false from by simp; omega] at this; simp at this; exact this
                    subst hb0
                    go_enter Try.func16, Try.ntmps16
                    go_wp2_with (go_at_call 28; go_must (refine (may_as _ true _ hn h0).mono ?_); rintro e w' ⟨rfl, hw⟩; obtain rfl := hw.symm)
                    go_ret
                    exact ⟨rfl, lay (Below.refl _ _) _⟩
                  · have d7 : decide (1099511627776 < now) = false := by simp; omega
                    have hb0 : b = true := by have := HB.out; rw [h0] at this; rw [← this]; simp; omega
                    subst hb0
                    go_enter Try.func16, Try.ntmps16
                    go_wp2_with (go_at_call 28; go_must (refine (may_as _ true _ hn h0).mono ?_); rintro e w' ⟨rfl, hw⟩; obtain rfl := hw.symm)
                    go_ret
                    exact ⟨rfl, lay (Below.refl _ _) _⟩

end Go.Proofs.Ytcmhjlflgedcdab

/- What copyOf of package store gives: a set in memory of its own. -/
namespace Go.Proofs.Ytcmhjlflgedcdab
open Go.RowKit
open Pl

/-- The first j texts, and none. -/
def dTo (ds : List ByteArray) (j : Nat) : List ByteArray := ds.take j ++ List.replicate (ds.length - j) ⟨#[]⟩
theorem dTo_len {ds : List ByteArray} {j : Nat} (h : j ≤ ds.length) : (dTo ds j).length = ds.length := by
  unfold dTo; rw [List.length_append, List.length_take, List.length_replicate]; omega
theorem dTo_set {ds : List ByteArray} {j : Nat} (h : j < ds.length) : (dTo ds j).set j ds[j] = dTo ds (j + 1) := by
  have hl : (ds.take j).length = j := by rw [List.length_take]; omega
  unfold dTo
  rw [List.set_append_right _ _ (by omega), hl, Nat.sub_self, show ds.length - j = (ds.length - (j + 1)) + 1 from by omega, List.replicate_succ, List.set_cons_zero, List.take_succ_eq_append_getElem h, List.append_assoc]
  rfl
theorem dTo_all (ds : List ByteArray) : dTo ds ds.length = ds := by unfold dTo; rw [Nat.sub_self]; simp
theorem tC_set (ds : List ByteArray) (j : Nat) (s : ByteArray) : (tC ds).set j (.string s) = tC (ds.set j s) := by unfold tC; rw [List.map_set]
theorem made1 (n : Nat) : (madeCells (Value.string ⟨#[]⟩).cells (n * 1)).toList = tC (List.replicate n ⟨#[]⟩) := by
  apply List.ext_getElem?
  intro j
  unfold madeCells tC
  rw [Array.getElem?_toList, Array.getElem?_map, Array.getElem?_range, List.getElem?_map, List.getElem?_replicate]
  by_cases hj : j < n
  · rw [if_pos (by omega), if_pos hj]
    simp [Value.cells, Nat.mod_one]
  · rw [if_neg (by omega), if_neg hj]
    rfl

def sA (n : ByteArray) (t l : Int) (d : Value) : Array Value := #[.string n, .int .i64 t, .int .i64 l, d]
/-- How far copyOf is. -/
structure CO (w0 w : World) (n : ByteArray) (t l : Int) (v : Value) (g : Nat) (ds : List ByteArray) (j : Nat) : Prop where
  b1 : Blk w w0.heap.size (sA n t l v) 36
  b2 : Blk w (w0.heap.size + 1) (sA ⟨#[]⟩ 0 0 (.slice none 0 0)) 36
  row : w.ownsRow (w0.heap.size + 2) 9 1 (.slice (some ⟨g, 0, none⟩) ds.length ds.length) ds.length (tC (dTo ds j))
  src : Row w v ds.length (tC ds)
  bel : Below w0.heap.size w0 w
  old : Row w0 v ds.length (tC ds)
theorem CO.below {w0 w w' : World} {n : ByteArray} {t l : Int} {v : Value} {g : Nat} {ds : List ByteArray} {j : Nat} (h : CO w0 w n t l v g ds j) (hb : Below w.heap.size w w') : CO w0 w' n t l v g ds j :=
  ⟨h.b1.below hb, h.b2.below hb, own_past h.row hb, h.src.below hb, next h.bel hb, h.old⟩
theorem row_turned {w0 w : World} {v : Value} {k : Nat} {xs : List Value} (h : Row w0 v k xs) (hb : Below w0.heap.size w0 w) : Row w v k xs := h.below hb
theorem CO.set {w0 w : World} {n : ByteArray} {t l : Int} {v : Value} {g : Nat} {ds : List ByteArray} {j : Nat} (h : CO w0 w n t l v g ds j) (hj : j < ds.length) : CO w0 (w.setCell ⟨g, j, none⟩ (.string ds[j])) n t l v g ds (j + 1) := by
  have hlt := h.row.lt g rfl
  have hb : Below w0.heap.size w0 (w.setCell ⟨g, j, none⟩ (.string ds[j])) := h.bel.setCell (p := ⟨g, j, none⟩) (by show w0.heap.size ≤ g; omega) _
  refine ⟨h.b1.other (by omega) _ _, h.b2.other (by omega) _ _, ?_, h.old.below hb, hb, h.old⟩
  have := (h.row.stored j (.string ds[j])).1
  rw [tC_set, dTo_set hj] at this
  exact this

theorem co_start {w w1 w2 : World} {n : ByteArray} {t l : Int} {v : Value} {ds : List ByteArray} {N : Nat} (hN : N = ds.length) (k1 : Blk w1 w.heap.size #[.string n, .int .i64 t, .int .i64 l, v] 36) (k2 : Blk w1 (w.heap.size + 1) #[.string ⟨#[]⟩, .int .i64 0, .int .i64 0, .slice none 0 0] 36)
    (hb : Below w.heap.size w w1) (old : Row w v ds.length (tC ds)) {g : Nat} (own2 : w2.ownsRow (w.heap.size + 2) 9 1 (.slice (some ⟨g, 0, none⟩) N N) N (madeCells (Value.string ⟨#[]⟩).cells (N * 1)).toList)
    (grow2 : (w1.setCell ⟨w.heap.size, 0, none⟩ (.string n)).grownBy w2 none) : CO w w2 n t l v g ds 0 := by
  subst hN
  have hb2 := grown_below grow2
  have hb1 : Below w.heap.size w (w1.setCell ⟨w.heap.size, 0, none⟩ (.string n)) := hb.setCell (p := ⟨w.heap.size, 0, none⟩) (Nat.le_refl _) _
  have e : dTo ds 0 = List.replicate ds.length ⟨#[]⟩ := by unfold dTo; simp
  refine ⟨?_, (k2.other (by omega) _ _).below hb2, ?_, old.below (next hb1 hb2), next hb1 hb2, old⟩
  · have := (k1.set 0 (.string n)).below hb2
    exact this
  · rw [made1] at own2
    rw [e]
    exact own2

set_option maxRecDepth 20000 in
set_option maxHeartbeats 1000000 in
theorem copyOf_any (n : ByteArray) (t l : Int) (v : Value) (ds : List ByteArray) (w : World) (hn : n.size ≤ 140737488351232) (hr : Row w v ds.length (tC ds)) (h0 : 0 < ds.length) (hl : ds.length ≤ 8796093022000) (hs : ∀ d ∈ ds, d.size ≤ 140737488351232) :
    Calls Try.prog 25 #[.agg #[.string n, .int .i64 t, .int .i64 l, v]] w fun e w' => ∃ g, e = .returned (.agg #[.string n, .int .i64 t, .int .i64 l, .slice (some ⟨g, 0, none⟩) ds.length ds.length]) ∧
      w'.ownsRow w.heap.size 9 1 (.slice (some ⟨g, 0, none⟩) ds.length ds.length) ds.length (tC ds) ∧ w.heap.size ≤ g ∧ Below w.heap.size w w' := by
  obtain ⟨i0, hi, hz0, hz1, hz2⟩ := info_parts info9'
  obtain ⟨y, c, hv⟩ := row_slice hr
  have HOLD : Hid (Row w v ds.length (tC ds)) := hr
  obtain ⟨N, hN⟩ : ∃ N, N = ds.length := ⟨_, rfl⟩
  have HN : Hid (N = ds.length) := hN
  rw [← hN] at hv hl h0 ⊢
  have HS : Hid (∀ d ∈ ds, d.size ≤ 140737488351232) := hs
  have HV : Hid (v = .slice y N c) := hv
  have hb0 : Below w.heap.size w ((w.alloc (.cells (sA n t l v) 36)).alloc (.cells (sA ⟨#[]⟩ 0 0 (.slice none 0 0)) 36)) := lay (lay (Below.refl _ _) _) _
  have k1 := (Blk.new w (sA n t l v) 36).alloc (.cells (sA ⟨#[]⟩ 0 0 (.slice none 0 0)) 36)
  have k2 := Blk.new (w.alloc (.cells (sA n t l v) 36)) (sA ⟨#[]⟩ 0 0 (.slice none 0 0)) 36
  have e2 : (w.alloc (.cells (sA n t l v) 36)).heap.size = w.heap.size + 1 := by simp
  rw [e2] at k2
  subst hv
  unfold sA at hb0 k1 k2
  clear hN hr hs
  have t1 : True := trivial
  go_enter Try.func25, Try.ntmps25
  go_wp2_with (first
    | (go_at_call 36; have _t := t1; go_must (refine (clone_far n _ (by omega)).mono ?_); rintro e w1 ⟨rfl, b1⟩; replace k1 := k1.below b1; replace k2 := k2.below b1; replace hb0 := next hb0 b1; clear t1 b1; have c0 := k1.cell 0; have c3 := k1.cell 3; have f0 := k1.frozen 0; simp only [List.getElem?_toArray, List.getElem?_cons_succ, List.getElem?_cons_zero] at c0 c3)
    | (at_make; refine wpList_make_full _ rfl _ _ 22 rfl (w.heap.size + 2) 9 i0 (.string ⟨#[]⟩) 1 Try.underlying22 hi hz0 hz1 .i64 .i64 _ _ N rfl rfl rfl rfl (by rw [hz2]; omega) (by unfold maxLen; omega) (by have := k2.lt; simp; omega) ?_; intro w2 own2 grow2; have HCO : Hid (CO w w2 n t l (.slice y N c) _ ds 0) := co_start HN.out k1 k2 hb0 HOLD.out own2 grow2; generalize hgg : (w1.setCell ⟨w.heap.size, 0, none⟩ (.string n)).heap.size = g at HCO ⊢; clear own2 grow2 k1 k2 hb0 c0 c3 f0 hgg; have c3 := HCO.out.b1.cell 3; simp only [sA, List.getElem?_toArray, List.getElem?_cons_succ, List.getElem?_cons_zero] at c3))
  go_loopw [17] (fun i wr => ∃ j : Nat, j ≤ N ∧ i = .int .i64 (j : Int) ∧ Hid (CO w wr n t l (.slice y N c) g ds j)) (fun i _ => N - (intOf i).toNat)
  case atStart => exact ⟨0, Nat.zero_le _, rfl, HCO⟩
  case round =>
    obtain ⟨j, hj, rfl, HC⟩ := hrel
    clear HCO c3
    by_cases hjn : j < N
    · have hjd : j < ds.length := by rw [← HN.out]; exact hjn
      obtain ⟨s, hs⟩ : ∃ s, s = ds[j] := ⟨_, rfl⟩
      have hss : s.size ≤ 140737488351232 := by rw [hs]; exact HS.out _ (List.getElem_mem _)
      have hsrc := HC.out.src
      rw [← HN.out] at hsrc
      obtain ⟨ga, oa, ca, ev, hcell⟩ := row_at hsrc (by omega)
      simp only [Value.slice.injEq, true_and] at ev
      obtain ⟨rfl, rfl⟩ := ev
      have d1 := hcell j (.string s) (by rw [hs]; exact tC_at hjd)
      have HJ : Hid (∀ wn, CO w wn n t l (.slice (some ⟨ga, oa, none⟩) N c) g ds j → CO w (wn.setCell ⟨g, j, none⟩ (.string s)) n t l (.slice (some ⟨ga, oa, none⟩) N c) g ds (j + 1)) := fun wn h => by rw [hs]; exact h.set hjd
      clear hs hjd hsrc hcell
      go_wp2_with (go_at_call 36; go_must (refine (clone_far s _ (by omega)).mono ?_); rintro e w3 ⟨rfl, b3⟩; have HC3 : Hid (CO w w3 n t l (.slice (some ⟨ga, oa, none⟩) N c) g ds j) := HC.out.below b3; have ro := HC3.out.row; rw [← HN.out] at ro; have cj := ro.cellAt j (by omega); have fj := ro.frozenAt j; rw [List.getElem?_eq_getElem (by rw [tC_len, dTo_len (by rw [← HN.out]; omega), ← HN.out]; omega)] at cj; clear ro b3)
      go_roundw
      case rel => exact ⟨j + 1, by omega, by go_num, HJ.out _ HC3.out⟩
      case measure => simp [intOf]; omega
    · have hjn' : decide (j < N) = false := by simpa using hjn
      have HE : Hid (CO w wr n t l (.slice y N c) g ds ds.length) := by rw [← HN.out, show N = j from by omega]; rw [show N = j from by omega] at HC; exact HC
      clear HC
      have f3 := HE.out.b1.frozen 3
      have c3 := HE.out.b1.cell 3
      simp only [sA, List.getElem?_toArray, List.getElem?_cons_succ, List.getElem?_cons_zero] at c3
      have k1 : Blk (wr.setCell ⟨w.heap.size, 3, none⟩ (.slice (some ⟨g, 0, none⟩) N N)) w.heap.size #[.string n, .int .i64 t, .int .i64 l, .slice (some ⟨g, 0, none⟩) N N] 36 := HE.out.b1.set 3 _
      have k2 : Blk (wr.setCell ⟨w.heap.size, 3, none⟩ (.slice (some ⟨g, 0, none⟩) N N)) (w.heap.size + 1) #[.string ⟨#[]⟩, .int .i64 0, .int .i64 0, .slice none 0 0] 36 := HE.out.b2.other (by omega) _ _
      have HR : Hid ((wr.setCell ⟨w.heap.size, 3, none⟩ (.slice (some ⟨g, 0, none⟩) N N)).ownsRow (w.heap.size + 2) 9 1 (.slice (some ⟨g, 0, none⟩) N N) N (tC ds)) := by
        have := HE.out.row
        rw [dTo_all, ← HN.out] at this
        exact ownsRow_setCell_below this (a := ⟨w.heap.size, 3, none⟩) (by show w.heap.size < _; omega) _
      have HB : Hid (Below w.heap.size w (wr.setCell ⟨w.heap.size, 3, none⟩ (.slice (some ⟨g, 0, none⟩) N N))) := HE.out.bel.setCell (p := ⟨w.heap.size, 3, none⟩) (Nat.le_refl _) _
      clear HE
      go_wp2_with (first
        | (refine wpList_loadS _ rfl (.tmp 1) 36 rfl w.heap.size _ 36 rfl k1 ⟨_, Try.underlying36⟩ (by kernel_rfl) ?_)
        | (refine wpList_storeS _ rfl (.tmp 2) (.tmp 30) 36 rfl (w.heap.size + 1) _ _ 36 rfl rfl k2 (by kernel_rfl) rfl (by simp [Value.oneCell']) ?_; intro w5 k5 t5 _ _))
      have hlt := HR.out.lt g rfl
      refine bodyPost_ret (v := .agg #[.string n, .int .i64 t, .int .i64 l, .slice (some ⟨g, 0, none⟩) N N]) (ret_s rfl rfl k5 ⟨_, Try.underlying36⟩ (by kernel_rfl)) rfl ⟨g, rfl, ?_, by omega, t5.one_below HB.out (by omega)⟩
      exact t5.row (own_base HR.out (by omega)) (fun k hk e => by simp [Value.ownBlock] at hk; omega)

end Go.Proofs.Ytcmhjlflgedcdab

/- What live gives: the entry of a name and a type, if it is live. -/
namespace Go.Proofs.Ytcmhjlflgedcdab
open Go.RowKit
open Pl

def uL (L : List (En × Value)) (n : ByteArray) (t : Int) : Int := match atL L n t with | some p => p.1.u | none => 0
def lvB (L : List (En × Value)) (n : ByteArray) (t now : Int) : Bool := bL L n t && decide (now < uL L n t)
theorem MapAt.dat {w : World} {mb : Option Nat} {L : List (En × Value)} (h : MapAt w mb L) {p : En × Value} (hp : p ∈ L) : w.ownsRow 0 9 1 p.2 p.1.ds.length (tC p.1.ds) := by
  rcases h with ⟨_, rfl⟩ | ⟨b, _, h⟩
  · simp at hp
  · exact h.dat p hp
theorem MapAt.one {w : World} {mb : Option Nat} {L : List (En × Value)} (h : MapAt w mb L) {p : En × Value} (hp : p ∈ L) : p.2.oneCell' = true := by
  obtain ⟨y, c, e⟩ := row_shape (h.dat hp)
  rw [e]; rfl

set_option maxRecDepth 20000 in
set_option maxHeartbeats 1000000 in
theorem live_any {w : World} {gs most : Nat} {mb : Option Nat} {L : List (En × Value)} (h : St w gs most mb L) (n : ByteArray) (t now : Int) (hn : n.size ≤ maxLen) (ht : (Lit.int .i64 t).wf = true) :
    Calls Try.prog 18 #[.pointer (some ⟨gs, 0, none⟩), .agg #[.string n, .int .i64 t], .int .i64 now] w fun e w' => e = .returned (.tuple #[vL L n t, .bool (lvB L n t now)]) ∧ Below w.heap.size w w' := by
  cases ha : atL L n t with
  | none =>
    have e1 : vL L n t = eZ := by unfold vL; rw [ha]
    have e2 : bL L n t = false := by unfold bL; rw [ha]; rfl
    have e3 : lvB L n t now = false := by unfold lvB; rw [e2]; rfl
    rw [e1, e3]
    have hlk : ∀ u, MapAt u mb L → (Instr.lookup 48 (.map mb) (.agg #[.string n, .int .i64 t]) true).run Try.prog u = .ok (.tuple #[eZ, .bool false]) u := fun u hu => by have := hu.look hn ht; rw [e1, e2] at this; exact this
    unfold eZ at hlk ⊢
    clear e1 e2 e3 ha
    go_enter Try.func18, Try.ntmps18
    go_wp2
    obtain ⟨W, hW⟩ : ∃ W, W = (w.alloc (.cells #[.string n, .int .i64 t] 56)).alloc (.cells #[.string ⟨#[]⟩, .int .i64 0, .int .i64 0, .slice none 0 0, .int .i64 0, .int .i64 0] 39) := ⟨_, rfl⟩
    have hb : Below w.heap.size w W := by rw [hW]; exact lay (lay (Below.refl _ _) _) _
    have hs := h.below hb
    have k1 : Blk W w.heap.size #[.string n, .int .i64 t] 56 := by rw [hW]; exact (Blk.new w _ _).alloc _
    have k2 : Blk W (w.heap.size + 1) #[.string ⟨#[]⟩, .int .i64 0, .int .i64 0, .slice none 0 0, .int .i64 0, .int .i64 0] 39 := by rw [hW]; have := Blk.new (w.alloc (.cells #[.string n, .int .i64 t] 56)) #[.string ⟨#[]⟩, .int .i64 0, .int .i64 0, .slice none 0 0, .int .i64 0, .int .i64 0] 39; simpa using this
    have hws : W.heap.size = w.heap.size + 1 + 1 := by rw [hW]; simp
    rw [← hW]
    have c1 := hs.blk.cell 1
    have d0 := k1.cell 0
    have d1 := k1.cell 1
    simp only [List.getElem?_toArray, List.getElem?_cons_succ, List.getElem?_cons_zero] at c1 d0 d1
    have l1 := hlk W.drew (hs.at'.below ((Below.refl _ _).drew))
    have l2 : ∀ o, (Instr.lookup 48 (.map mb) (.agg #[.string n, .int .i64 t]) true).run Try.prog (W.alloc o).drew = _ := fun o => hlk _ (hs.at'.below (((Below.refl _ _).alloc (Nat.le_refl _) o).drew))
    have c1' : ∀ o, (W.alloc o).cell? ⟨gs, 1, none⟩ = some (.map mb) := fun o => (hs.blk.alloc o).cell 1
    have d0' : ∀ o, (W.alloc o).cell? ⟨w.heap.size, 0, none⟩ = some (.string n) := fun o => (k1.alloc o).cell 0
    have d1' : ∀ o, (W.alloc o).cell? ⟨w.heap.size, 1, none⟩ = some (.int .i64 t) := fun o => (k1.alloc o).cell 1
    clear hlk hW hs
    go_region
    obtain ⟨X, hX⟩ : ∃ X, X = (W.alloc (.cells #[.string ⟨#[]⟩, .int .i64 0, .int .i64 0, .slice none 0 0, .int .i64 0, .int .i64 0] 39)).drew := ⟨_, rfl⟩
    rw [← hX]
    have hbx : Below w.heap.size w X := by rw [hX]; exact (hb.alloc hb.size _).drew
    have j1 : Blk X W.heap.size #[.string ⟨#[]⟩, .int .i64 0, .int .i64 0, .slice none 0 0, .int .i64 0, .int .i64 0] 39 := by rw [hX]; exact Blk.new W _ _
    have j2 : Blk X (w.heap.size + 1) #[.string ⟨#[]⟩, .int .i64 0, .int .i64 0, .slice none 0 0, .int .i64 0, .int .i64 0] 39 := by rw [hX]; exact k2.alloc _
    rw [hws] at j1
    clear hX c1 d0 d1 l1 l2 c1' d0' d1' k1 k2 hb hws
    go_wp2
    refine wp_region_held_drew (S := fun u => Blk u (w.heap.size + 1 + 1) #[.string ⟨#[]⟩, .int .i64 0, .int .i64 0, .slice none 0 0, .int .i64 0, .int .i64 0] 39) (by kernel_rfl) (j1.drew ⟨1, rfl⟩) (fun hHeld => ?_)
    refine wpAnyH_take (i := 0) (v := .agg #[.string ⟨#[]⟩, .int .i64 0, .int .i64 0, .slice none 0 0, .int .i64 0, .int .i64 0]) rfl (by kernel_rfl) (by kernel_rfl) (by kernel_rfl) (fun _ _ _ h => h) (Or.inl ⟨by rfl, ?_⟩) hHeld ?_
    · intro u u1
      have a0 := u1.cell 0; have a1 := u1.cell 1; have a2 := u1.cell 2; have a3 := u1.cell 3; have a4 := u1.cell 4; have a5 := u1.cell 5; simp only [List.getElem?_toArray, List.getElem?_cons_succ, List.getElem?_cons_zero] at a0 a1 a2 a3 a4 a5
      go_simp
    simp only [Act.put, List.getElem_toArray, List.getElem_cons_zero, List.setIfInBounds_toArray, List.set_cons_zero, List.set_cons_succ]
    refine wpAnyH_take (i := 1) (v := .bool false) rfl (by kernel_rfl) (by kernel_rfl) (by kernel_rfl) (fun _ _ _ h => h) (Or.inl ⟨by rfl, ?_⟩) hHeld ?_
    · intro u u1
      go_simp
    simp only [Act.put, List.getElem_toArray, List.getElem_cons_succ, List.getElem_cons_zero, List.setIfInBounds_toArray, List.set_cons_zero, List.set_cons_succ]
    refine wpAnyH_take (i := 2) (v := .bool false) rfl (by kernel_rfl) (by kernel_rfl) (by kernel_rfl) (fun _ _ _ h => h) (Or.inl ⟨by rfl, ?_⟩) hHeld ?_
    · intro u u1
      go_simp
    simp only [Act.put, List.getElem_toArray, List.getElem_cons_succ, List.getElem_cons_zero, List.setIfInBounds_toArray, List.set_cons_zero, List.set_cons_succ]
    have hbx5 := hbx.drew
    have i2 := j2.drew ⟨1, rfl⟩
    refine wpAnyH_take (i := 3) (v := undef) rfl (by kernel_rfl) (by kernel_rfl) (by kernel_rfl) (fun _ _ _ h => h) (Or.inr ⟨by rfl, rfl⟩) hHeld ?_
    simp only [Act.put, List.getElem_toArray, List.getElem_cons_succ, List.getElem_cons_zero, List.setIfInBounds_toArray, List.set_cons_zero, List.set_cons_succ]
    refine wpAnyH_take (i := 4) (v := undef) rfl (by kernel_rfl) (by kernel_rfl) (by kernel_rfl) (fun _ _ _ h => h) (Or.inr ⟨by rfl, rfl⟩) hHeld ?_
    simp only [Act.put, List.getElem_toArray, List.getElem_cons_succ, List.getElem_cons_zero, List.setIfInBounds_toArray, List.set_cons_zero, List.set_cons_succ]
    refine wpAnyH_take (i := 5) (v := undef) rfl (by kernel_rfl) (by kernel_rfl) (by kernel_rfl) (fun _ _ _ h => h) (Or.inr ⟨by rfl, rfl⟩) hHeld ?_
    simp only [Act.put, List.getElem_toArray, List.getElem_cons_succ, List.getElem_cons_zero, List.setIfInBounds_toArray, List.set_cons_zero, List.set_cons_succ]
    refine wpAnyH_take (i := 6) (v := .bool false) rfl (by kernel_rfl) (by kernel_rfl) (by kernel_rfl) (fun _ _ _ h => h) (Or.inl ⟨by rfl, ?_⟩) hHeld ?_
    · intro u u1
      go_simp
    simp only [Act.put, List.getElem_toArray, List.getElem_cons_succ, List.getElem_cons_zero, List.setIfInBounds_toArray, List.set_cons_zero, List.set_cons_succ]
    refine wpAnyH_ready (rs := [7]) (by kernel_rfl) (by simp) ?_
    refine AllReadyH.cons rfl (fun K hK => ?_) AllReadyH.nil
    refine step_storeS _ rfl (.tmp 6) (.tmp 19) 39 rfl (w.heap.size + 1) _ _ 39 rfl rfl i2 (by kernel_rfl) rfl (by simp [Value.oneCell']) ?_
    intro w6 i6 t6 _ _
    have hb6 := t6.one_below hbx5 (by omega)
    have i7 := t6.blk hHeld (by omega)
    go_simp
    refine hK.out _ _ i7 (fun hHeld => ?_)
    refine wpAnyH_take (i := 8) (v := .bool false) rfl (by kernel_rfl) (by kernel_rfl) (by kernel_rfl) (fun _ _ _ h => h) (Or.inl ⟨by rfl, ?_⟩) hHeld ?_
    · intro u u1
      go_simp
    simp only [Act.put, List.getElem_toArray, List.getElem_cons_succ, List.getElem_cons_zero, List.setIfInBounds_toArray, List.set_cons_zero, List.set_cons_succ]
    refine wpAnyH_done (by kernel_rfl) ?_ _
    go_wp2
    exact bodyPost_ret (ret_s1 rfl rfl rfl i6 ⟨_, Try.underlying39⟩ (by kernel_rfl)) rfl ⟨rfl, hb6⟩
  | some p =>
    have e1 : vL L n t = eA p.1 p.2 := by unfold vL; rw [ha]
    have e2 : bL L n t = true := by unfold bL; rw [ha]; rfl
    have e3 : lvB L n t now = decide (now < p.1.u) := by unfold lvB uL; rw [e2, ha]; rfl
    obtain ⟨py, pc, hpd⟩ := row_shape (h.at'.dat (atL_some ha).1)
    generalize p.1.ds.length = pk at hpd
    rw [e1, e3]
    have hlk : ∀ u, MapAt u mb L → (Instr.lookup 48 (.map mb) (.agg #[.string n, .int .i64 t]) true).run Try.prog u = .ok (.tuple #[eA p.1 p.2, .bool true]) u := fun u hu => by have := hu.look hn ht; rw [e1, e2] at this; exact this
    unfold eA at hlk ⊢
    clear e1 e2 e3 ha
    obtain ⟨⟨pn, pt, pl, pds, pr, pu⟩, pd⟩ := p
    simp only at hlk hpd ⊢
    subst hpd
    go_enter Try.func18, Try.ntmps18
    go_wp2
    obtain ⟨W, hW⟩ : ∃ W, W = (w.alloc (.cells #[.string n, .int .i64 t] 56)).alloc (.cells #[.string ⟨#[]⟩, .int .i64 0, .int .i64 0, .slice none 0 0, .int .i64 0, .int .i64 0] 39) := ⟨_, rfl⟩
    have hb : Below w.heap.size w W := by rw [hW]; exact lay (lay (Below.refl _ _) _) _
    have hs := h.below hb
    have k1 : Blk W w.heap.size #[.string n, .int .i64 t] 56 := by rw [hW]; exact (Blk.new w _ _).alloc _
    have k2 : Blk W (w.heap.size + 1) #[.string ⟨#[]⟩, .int .i64 0, .int .i64 0, .slice none 0 0, .int .i64 0, .int .i64 0] 39 := by rw [hW]; have := Blk.new (w.alloc (.cells #[.string n, .int .i64 t] 56)) #[.string ⟨#[]⟩, .int .i64 0, .int .i64 0, .slice none 0 0, .int .i64 0, .int .i64 0] 39; simpa using this
    have hws : W.heap.size = w.heap.size + 1 + 1 := by rw [hW]; simp
    rw [← hW]
    have c1 := hs.blk.cell 1
    have d0 := k1.cell 0
    have d1 := k1.cell 1
    simp only [List.getElem?_toArray, List.getElem?_cons_succ, List.getElem?_cons_zero] at c1 d0 d1
    have l1 := hlk W.drew (hs.at'.below ((Below.refl _ _).drew))
    have l2 : ∀ o, (Instr.lookup 48 (.map mb) (.agg #[.string n, .int .i64 t]) true).run Try.prog (W.alloc o).drew = _ := fun o => hlk _ (hs.at'.below (((Below.refl _ _).alloc (Nat.le_refl _) o).drew))
    have c1' : ∀ o, (W.alloc o).cell? ⟨gs, 1, none⟩ = some (.map mb) := fun o => (hs.blk.alloc o).cell 1
    have d0' : ∀ o, (W.alloc o).cell? ⟨w.heap.size, 0, none⟩ = some (.string n) := fun o => (k1.alloc o).cell 0
    have d1' : ∀ o, (W.alloc o).cell? ⟨w.heap.size, 1, none⟩ = some (.int .i64 t) := fun o => (k1.alloc o).cell 1
    clear hlk hW hs
    go_region
    obtain ⟨X, hX⟩ : ∃ X, X = (W.alloc (.cells #[.string pn, .int .i64 pt, .int .i64 pl, .slice py pk pc, .int .i64 pr, .int .i64 pu] 39)).drew := ⟨_, rfl⟩
    rw [← hX]
    have hbx : Below w.heap.size w X := by rw [hX]; exact (hb.alloc hb.size _).drew
    have j1 : Blk X W.heap.size #[.string pn, .int .i64 pt, .int .i64 pl, .slice py pk pc, .int .i64 pr, .int .i64 pu] 39 := by rw [hX]; exact Blk.new W _ _
    have j2 : Blk X (w.heap.size + 1) #[.string ⟨#[]⟩, .int .i64 0, .int .i64 0, .slice none 0 0, .int .i64 0, .int .i64 0] 39 := by rw [hX]; exact k2.alloc _
    rw [hws] at j1
    clear hX c1 d0 d1 l1 l2 c1' d0' d1' k1 k2 hb hws
    go_wp2
    refine wp_region_held_drew (S := fun u => Blk u (w.heap.size + 1 + 1) #[.string pn, .int .i64 pt, .int .i64 pl, .slice py pk pc, .int .i64 pr, .int .i64 pu] 39) (by kernel_rfl) (j1.drew ⟨1, rfl⟩) (fun hHeld => ?_)
    refine wpAnyH_take (i := 0) (v := .agg #[.string pn, .int .i64 pt, .int .i64 pl, .slice py pk pc, .int .i64 pr, .int .i64 pu]) rfl (by kernel_rfl) (by kernel_rfl) (by kernel_rfl) (fun _ _ _ h => h) (Or.inl ⟨by rfl, ?_⟩) hHeld ?_
    · intro u u1
      have a0 := u1.cell 0; have a1 := u1.cell 1; have a2 := u1.cell 2; have a3 := u1.cell 3; have a4 := u1.cell 4; have a5 := u1.cell 5; simp only [List.getElem?_toArray, List.getElem?_cons_succ, List.getElem?_cons_zero] at a0 a1 a2 a3 a4 a5
      go_simp
    simp only [Act.put, List.getElem_toArray, List.getElem_cons_zero, List.setIfInBounds_toArray, List.set_cons_zero, List.set_cons_succ]
    refine wpAnyH_take (i := 1) (v := .bool true) rfl (by kernel_rfl) (by kernel_rfl) (by kernel_rfl) (fun _ _ _ h => h) (Or.inl ⟨by rfl, ?_⟩) hHeld ?_
    · intro u u1
      go_simp
    simp only [Act.put, List.getElem_toArray, List.getElem_cons_succ, List.getElem_cons_zero, List.setIfInBounds_toArray, List.set_cons_zero, List.set_cons_succ]
    refine wpAnyH_take (i := 2) (v := .bool true) rfl (by kernel_rfl) (by kernel_rfl) (by kernel_rfl) (fun _ _ _ h => h) (Or.inl ⟨by rfl, ?_⟩) hHeld ?_
    · intro u u1
      go_simp
    simp only [Act.put, List.getElem_toArray, List.getElem_cons_succ, List.getElem_cons_zero, List.setIfInBounds_toArray, List.set_cons_zero, List.set_cons_succ]
    refine wpAnyH_take (i := 3) (v := .agg #[.string pn, .int .i64 pt, .int .i64 pl, .slice py pk pc, .int .i64 pr, .int .i64 pu]) rfl (by kernel_rfl) (by kernel_rfl) (by kernel_rfl) (fun _ _ _ h => h) (Or.inl ⟨by rfl, ?_⟩) hHeld ?_
    · intro u u1
      have a0 := u1.cell 0; have a1 := u1.cell 1; have a2 := u1.cell 2; have a3 := u1.cell 3; have a4 := u1.cell 4; have a5 := u1.cell 5; simp only [List.getElem?_toArray, List.getElem?_cons_succ, List.getElem?_cons_zero] at a0 a1 a2 a3 a4 a5
      go_simp
    simp only [Act.put, List.getElem_toArray, List.getElem_cons_succ, List.getElem_cons_zero, List.setIfInBounds_toArray, List.set_cons_zero, List.set_cons_succ]
    refine wpAnyH_take (i := 4) (v := .int .i64 now) rfl (by kernel_rfl) (by kernel_rfl) (by kernel_rfl) (fun _ _ _ h => h) (Or.inl ⟨by rfl, ?_⟩) hHeld ?_
    · intro u u1
      go_simp
    simp only [Act.put, List.getElem_toArray, List.getElem_cons_succ, List.getElem_cons_zero, List.setIfInBounds_toArray, List.set_cons_zero, List.set_cons_succ]
    refine wpAnyH_ready (rs := [5]) (by kernel_rfl) (by simp) ?_
    refine AllReadyH.cons rfl (fun K hK => ?_) AllReadyH.nil
    go_simp
    refine (isLive_any pn pt pl pr pu now (.slice py pk pc) _ rfl).mono ?_
    rintro e w5 ⟨rfl, b5⟩
    have hbx5 := next (hbx.drew) b5
    have i1 := hHeld.below b5
    have i2 := (j2.drew ⟨1, rfl⟩).below b5
    clear hHeld hbx b5
    go_simp
    refine hK.out _ _ i1 (fun hHeld => ?_)
    refine wpAnyH_take (i := 6) (v := .bool (decide (now < pu))) rfl (by kernel_rfl) (by kernel_rfl) (by kernel_rfl) (fun _ _ _ h => h) (Or.inl ⟨by rfl, ?_⟩) hHeld ?_
    · intro u u1
      go_simp
    simp only [Act.put, List.getElem_toArray, List.getElem_cons_succ, List.getElem_cons_zero, List.setIfInBounds_toArray, List.set_cons_zero, List.set_cons_succ]
    refine wpAnyH_ready (rs := [7]) (by kernel_rfl) (by simp) ?_
    refine AllReadyH.cons rfl (fun K hK => ?_) AllReadyH.nil
    refine step_storeS _ rfl (.tmp 6) (.tmp 19) 39 rfl (w.heap.size + 1) _ _ 39 rfl rfl i2 (by kernel_rfl) rfl (by simp [Value.oneCell']) ?_
    intro w6 i6 t6 _ _
    have hb6 := t6.one_below hbx5 (by omega)
    have i7 := t6.blk hHeld (by omega)
    go_simp
    refine hK.out _ _ i7 (fun hHeld => ?_)
    refine wpAnyH_take (i := 8) (v := .bool (decide (now < pu))) rfl (by kernel_rfl) (by kernel_rfl) (by kernel_rfl) (fun _ _ _ h => h) (Or.inl ⟨by rfl, ?_⟩) hHeld ?_
    · intro u u1
      go_simp
    simp only [Act.put, List.getElem_toArray, List.getElem_cons_succ, List.getElem_cons_zero, List.setIfInBounds_toArray, List.set_cons_zero, List.set_cons_succ]
    refine wpAnyH_done (by kernel_rfl) ?_ _
    go_wp2
    exact bodyPost_ret (ret_s1 rfl rfl rfl i6 ⟨_, Try.underlying39⟩ (by kernel_rfl)) rfl ⟨rfl, hb6⟩

end Go.Proofs.Ytcmhjlflgedcdab

/- What sweep does: what is not live goes, and the entry of a name and a type. -/
namespace Go.Proofs.Ytcmhjlflgedcdab
open Go.RowKit
open Pl

theorem key_eq (a b : ByteArray) (s t : Int) (v : Bool) (h : (decide (a = b) && decide (s = t)) = v) (u : World) : (binOp .eql 56 (.agg #[.string a, .int .i64 s]) (.agg #[.string b, .int .i64 t])).run Try.prog u = .ok (.bool v) u := by
  have h1 := run_eql_struct (P := Try.prog) (w := u) 56 #[.string a, .int .i64 s] #[.string b, .int .i64 t]
  rw [h1]
  rw [show (10000 : Nat) = 9999 + 1 from rfl, run_equalIn_struct (P := Try.prog) u 9999 56 #[.string a, .int .i64 s] #[.string b, .int .i64 t] (by kernel_rfl) (by kernel_rfl)]
  go_simp
  subst h
  by_cases h2 : a = b
  · subst h2
    by_cases h3 : s = t
    · simp [h3]
    · simp [h3]
  · have h4 : ¬ a.toList = b.toList := fun e => h2 (bytes_ext (by rw [ByteArray.toList_eq, ByteArray.toList_eq] at e; exact e))
    simp [h2, h4]

/-- delete, in a region that draws its order, while the map is ranged over. -/
theorem step_del_e (w : World) {ops : Array Oper} {o : Oper} {a : Act} {K : Act → World → Prop} {Q : Exit → Act → World → Prop} {E : Prop} (hgd : o.guard = none) (m x : Operand)
    (ho : o.op = .call { callee := .builtin .delete, args := #[m, x], argTypes := #[48, 56] }) (b r n cnt : Nat) (D : DataW Hc) (left : Lit → Bool) (kn : ByteArray) (kt : Int) (hm : a.eval m = .map (some b)) (hx : a.eval x = .agg #[.string kn, .int .i64 kt])
    (h : w.ranges Try.prog 56 rE b r n D left cnt) (hn : kn.size ≤ maxLen) (ht : (Lit.int .i64 kt).wf = true)
    (hK : ∀ w' cnt', w'.ranges Try.prog 56 rE b r n (D.del (kyL kn kt)) (fun z => left z && !z.sameKey (kyL kn kt)) cnt' → cnt' ≤ cnt → w.mapTurned w' b → K (a.put o.dst (.tuple #[])) w') :
    if Region.wanted o (yielded ops a.tmps) = true then Oper.wp Try.prog o a w K Q else E := by
  have hw : Region.wanted o (yielded ops a.tmps) = true := by simp [Region.wanted, hgd]
  rw [if_pos hw]
  obtain ⟨w', cnt', hrun, r1, r2, r3⟩ := h.drop keyE Try.underlying48 (keyOf_e hn ht) o.type
  have hrun2 : (Builtin.delete_ #[48, 56] o.type #[.map (some b), .agg #[.string kn, .int .i64 kt]]).run Try.prog w = .ok (.tuple #[]) w' := hrun
  unfold Oper.wp
  simp only [execOp, ho, resolve, invoke, builtin, Sem.run_bind, Sem.run_pure, Result.andThen_ok, List.map_toArray, List.map_cons, List.map_nil, hm, hx, hrun2]
  exact hK _ _ r1 r2 r3
/-- delete, in a region that draws its order. -/
theorem step_del_o (w : World) {ops : Array Oper} {o : Oper} {a : Act} {K : Act → World → Prop} {Q : Exit → Act → World → Prop} {E : Prop} (hgd : o.guard = none) (m x : Operand)
    (ho : o.op = .call { callee := .builtin .delete, args := #[m, x], argTypes := #[48, 56] }) (b n : Nat) (D : DataW Hc) (kn : ByteArray) (kt : Int) (hm : a.eval m = .map (some b)) (hx : a.eval x = .agg #[.string kn, .int .i64 kt])
    (h : w.ownsMap Try.prog 56 rE b n D) (hn : kn.size ≤ maxLen) (ht : (Lit.int .i64 kt).wf = true)
    (hK : ∀ w', w'.ownsMap Try.prog 56 rE b n (D.del (kyL kn kt)) → w.mapTurned w' b → K (a.put o.dst (.tuple #[])) w') :
    if Region.wanted o (yielded ops a.tmps) = true then Oper.wp Try.prog o a w K Q else E := by
  have hw : Region.wanted o (yielded ops a.tmps) = true := by simp [Region.wanted, hgd]
  rw [if_pos hw]
  obtain ⟨w', hrun, r1, r3⟩ := h.drop keyE Try.underlying48 (keyOf_e hn ht) o.type
  have hrun2 : (Builtin.delete_ #[48, 56] o.type #[.map (some b), .agg #[.string kn, .int .i64 kt]]).run Try.prog w = .ok (.tuple #[]) w' := hrun
  unfold Oper.wp
  simp only [execOp, ho, resolve, invoke, builtin, Sem.run_bind, Sem.run_pure, Result.andThen_ok, List.map_toArray, List.map_cons, List.map_nil, hm, hx, hrun2]
  exact hK _ r1 r3

/-- What stays. -/
def keepB (n : ByteArray) (t now : Int) (p : En × Value) : Bool := !sameK n t p.1 && decide (now < p.1.u)
def fltL (n : ByteArray) (t now : Int) (left : Lit → Bool) (L : List (En × Value)) : List (En × Value) := L.filter fun p => left (kyL p.1.n p.1.t) || keepB n t now p
def nextL (left : Lit → Bool) (p : En × Value) : Lit → Bool := fun x => left x && !x.sameKey (kyL p.1.n p.1.t)
theorem nextL_at {L : List (En × Value)} (hg : Good L) {p q : En × Value} (hp : p ∈ L) (hq : q ∈ L) (left : Lit → Bool) : nextL left p (kyL q.1.n q.1.t) = (left (kyL q.1.n q.1.t) && !sameK p.1.n p.1.t q.1) := by
  unfold nextL
  rw [same_ky (hg.ok q hq) (max_ok (hg.ok p hp).k) (wf_ok (hg.ok p hp).k)]
theorem flt_keep {L : List (En × Value)} (hg : Good L) {p : En × Value} (hp : p ∈ L) {n : ByteArray} {t now : Int} {left : Lit → Bool} (hk : keepB n t now p = true) : fltL n t now (nextL left p) L = fltL n t now left L := by
  unfold fltL
  refine List.filter_congr (fun q hq => ?_)
  rw [nextL_at hg hp hq]
  cases hs : sameK p.1.n p.1.t q.1 with
  | false => simp
  | true =>
    obtain rfl := hg.one hp hq hs
    rw [hk]; simp
theorem flt_drop {L : List (En × Value)} (hg : Good L) {p : En × Value} (hp : p ∈ L) {n : ByteArray} {t now : Int} {left : Lit → Bool} (hk : keepB n t now p = false) : (fltL n t now left L).filter (fun q => !sameK p.1.n p.1.t q.1) = fltL n t now (nextL left p) L := by
  unfold fltL
  rw [List.filter_filter]
  refine List.filter_congr (fun q hq => ?_)
  rw [nextL_at hg hp hq]
  cases hs : sameK p.1.n p.1.t q.1 with
  | false => simp
  | true =>
    obtain rfl := hg.one hp hq hs
    rw [hk]; simp
theorem flt_end {L : List (En × Value)} {n : ByteArray} {t now : Int} {left : Lit → Bool} (h : ∀ kl, left kl = false) : fltL n t now left L = L.filter (keepB n t now) := by
  unfold fltL
  refine List.filter_congr (fun q _ => ?_)
  rw [h]; rfl
theorem flt_start {D : DataW Hc} {L : List (En × Value)} (hm : MapOf D L) (hg : Good L) (n : ByteArray) (t now : Int) : fltL n t now (Maps.has D) L = L := by
  unfold fltL
  refine List.filter_eq_self.2 (fun q hq => ?_)
  rw [mapOf_has hm hg (max_ok (hg.ok q hq).k) (wf_ok (hg.ok q hq).k), List.any_eq_true.2 ⟨q, hq, sameK_iff.2 ⟨rfl, rfl⟩⟩]
  rfl

/-- A range over the map of a store, under way. -/
structure SWp (w0 w : World) (gs most b r : Nat) (L M : List (En × Value)) (left : Lit → Bool) (cnt : Nat) : Prop where
  rg : ∃ k D, w.ranges Try.prog 56 rE b r k D left cnt ∧ MapOf D M
  good : Good L
  dat : ∀ p ∈ L, w.ownsRow 0 9 1 p.2 p.1.ds.length (tC p.1.ds)
  blk : Blk w gs #[.int .i64 most, .map (some b)] 50
  turn : Turn (fun k => k = b) w0 w
  oldb : b < w0.heap.size
  oldg : gs < w0.heap.size
  oldd : ∀ p ∈ L, ∀ k, p.2.ownBlock = some k → k < w0.heap.size
  new : w0.heap.size ≤ r
theorem row_not_map {w : World} {b : Nat} {es : Array MapEntry} {clock : Nat} (hb : w.heap[b]? = some (.map es clock)) {base e z n : Nat} {v : Value} {xs : List Value} (h : w.ownsRow base e z v n xs) : ∀ k, v.ownBlock = some k → k ≠ b := by
  intro k hk e
  rcases h.2 with ⟨rfl, _⟩ | ⟨g, cap, cur, rfl, _, hgb, _⟩
  · simp [Value.ownBlock] at hk
  · have : g = k := by simpa [Value.ownBlock] using hk
    subst this; subst e
    rw [hgb] at hb; cases hb
theorem Blk.not_map {w : World} {b g : Nat} {es : Array MapEntry} {clock : Nat} (hb : w.heap[b]? = some (.map es clock)) {C : Array Value} {t : TypeId} (h : Blk w g C t) : g ≠ b := by
  intro e; subst e
  have h' : w.heap[g]? = some (.cells C t (0, 0)) := h
  rw [h'] at hb; cases hb
theorem SWp.below {w0 w w' : World} {gs most b r : Nat} {L M : List (En × Value)} {left : Lit → Bool} {cnt : Nat} (h : SWp w0 w gs most b r L M left cnt) (hb : Below w.heap.size w w') : SWp w0 w' gs most b r L M left cnt := by
  obtain ⟨k, D, hr, hm⟩ := h.rg
  exact ⟨⟨k, D, hr.kept (row := none) ⟨hb.os, hb.tape, hb.output, hb.size, fun k hk _ => hb.block k hk⟩ (by simp) (by simp), hm⟩, h.good, fun p hp => own_past (h.dat p hp) hb, h.blk.below hb, h.turn.past hb, h.oldb, h.oldg, h.oldd, h.new⟩
theorem SWp.moved {w0 w w' : World} {gs most b r : Nat} {L M : List (En × Value)} {left left' : Lit → Bool} {cnt cnt' k : Nat} {D : DataW Hc} (h : SWp w0 w gs most b r L M left cnt) (hr : w'.ranges Try.prog 56 rE b r k D left' cnt') (hm : MapOf D M) (hg : w.grownBy w' (some r)) : SWp w0 w' gs most b r L M left' cnt' := by
  have ht : Turn (fun k => k = r) w w' := Turn.of_grown hg (fun k e => (Option.some.inj e).symm)
  have hn := h.new
  exact ⟨⟨k, D, hr, hm⟩, h.good, fun p hp => ht.row (h.dat p hp) (fun k hk e => by have := h.oldd p hp k hk; omega), ht.blk h.blk (by have := h.oldg; omega), h.turn.trans ht (fun i hi => .inr (by omega)), h.oldb, h.oldg, h.oldd, h.new⟩
theorem SWp.struck {w0 w w' : World} {gs most b r : Nat} {L M N : List (En × Value)} {left left' : Lit → Bool} {cnt cnt' k : Nat} {D : DataW Hc} (h : SWp w0 w gs most b r L M left cnt) (hr : w'.ranges Try.prog 56 rE b r k D left' cnt') (hm : MapOf D N) (ht : w.mapTurned w' b) : SWp w0 w' gs most b r L N left' cnt' := by
  obtain ⟨k0, D0, hr0, _⟩ := h.rg
  obtain ⟨es, clock, hb, _⟩ := hr0.owns
  have ht2 : Turn (fun k => k = b) w w' := Turn.of_grown ht.grown (fun k e => (Option.some.inj e).symm)
  exact ⟨⟨k, D, hr, hm⟩, h.good, fun p hp => ht2.row (h.dat p hp) (fun k hk e => row_not_map hb (h.dat p hp) k hk e), ht2.blk h.blk (h.blk.not_map hb), h.turn.same ht2, h.oldb, h.oldg, h.oldd, h.new⟩
/-- A range begins. -/
theorem sw_start {w0 w w' : World} {gs most b : Nat} {L : List (En × Value)} {D : DataW Hc} (h : St w0 gs most (some b) L) (hb : Below w0.heap.size w0 w) (hm : MapOf D L) (hr : w'.ranges Try.prog 56 rE b w.heap.size L.length D (Maps.has D) (Maps.size D)) (hg : w.grownBy w' none) :
    SWp w0 w' gs most b w.heap.size L L (Maps.has D) (Maps.size D) := by
  have hb2 : Below w0.heap.size w0 w' := next hb (grown_below hg)
  have hs := h.below hb2
  have hl := h.lt
  rcases hs.at' with ⟨e, _⟩ | ⟨b', e, hh⟩
  · cases e
  · cases e
    exact ⟨⟨_, D, hr, hm⟩, hh.good, hh.dat, hs.blk, Turn.of_below hb2, hl b (.inr (.inl rfl)), hl gs (.inl rfl), fun p hp k hk => hl k (.inr (.inr ⟨p, hp, hk⟩)), hb.size⟩
theorem SWp.st {w0 w : World} {gs most b r : Nat} {L M : List (En × Value)} {left : Lit → Bool} {cnt : Nat} (h : SWp w0 w gs most b r L M left cnt) (hs : M.Sublist L) (h1 : 1 ≤ most) (h2 : most ≤ 256) (hl : L.length ≤ most) : St w gs most (some b) M := by
  obtain ⟨k, D, hr, hm⟩ := h.rg
  exact ⟨h.blk, h1, h2, Nat.le_trans hs.length_le hl, .inr ⟨b, rfl, ⟨k, D, hr.owns, hm⟩, h.good.sub hs, fun p hp => h.dat p (hs.subset hp)⟩⟩

theorem sw_struck {w0 w w' : World} {gs most b r : Nat} {L M N : List (En × Value)} {left : Lit → Bool} {cnt cnt' k : Nat} {D : DataW Hc} {p : En × Value} (h : SWp w0 w gs most b r L M (nextL left p) cnt) (hg : Good M) (hok : OkK p.1.n p.1.t) (hm : MapOf D M) (hN : M.filter (fun q => !sameK p.1.n p.1.t q.1) = N)
    (hr : w'.ranges Try.prog 56 rE b r k (D.del (kyL p.1.n p.1.t)) (fun z => nextL left p z && !z.sameKey (kyL p.1.n p.1.t)) cnt') (ht : w.mapTurned w' b) : SWp w0 w' gs most b r L N (nextL left p) cnt' := by
  have e : (fun z => nextL left p z && !z.sameKey (kyL p.1.n p.1.t)) = nextL left p := Maps.strike_twice left (kyL p.1.n p.1.t)
  rw [e] at hr
  have := mapOf_del hm hg (max_ok hok) (wf_ok hok)
  rw [hN] at this
  exact h.struck hr this ht

set_option maxRecDepth 20000 in
set_option maxHeartbeats 2000000 in
theorem sweep_any {w : World} {gs most : Nat} {mb : Option Nat} {L : List (En × Value)} (h : St w gs most mb L) (n : ByteArray) (t now : Int) (_hk : OkK n t) :
    Calls Try.prog 19 #[.pointer (some ⟨gs, 0, none⟩), .agg #[.string n, .int .i64 t], .int .i64 now] w fun e w' => e = .returned (.tuple #[]) ∧ St w' gs most mb (L.filter (keepB n t now)) ∧ Turn (fun k => mb = some k) w w' := by
  have hb1 : Below w.heap.size w (w.alloc (.cells #[.string n, .int .i64 t] 56)) := lay (Below.refl _ _) _
  have hs1 := h.below hb1
  have c1 : (w.alloc (.cells #[.string n, .int .i64 t] 56)).cell? ⟨gs, 1, none⟩ = some (.map mb) := hs1.blk.cell 1
  cases mb with
  | none =>
    have hL : L = [] := by
      rcases h.at' with ⟨_, e⟩ | ⟨b, e, _⟩
      · exact e
      · cases e
    subst hL
    have hrg := run_range_nilMap (P := Try.prog) (w.alloc (.cells #[.string n, .int .i64 t] 56)) 48 56 39 Try.underlying48
    have hnx : ∀ ty, (Instr.next (.pointer (some ⟨(w.alloc (.cells #[.string n, .int .i64 t] 56)).heap.size, 0, none⟩)) false ty).run Try.prog ((w.alloc (.cells #[.string n, .int .i64 t] 56)).alloc (.mapIter none 0 #[] 0)) = _ := fun ty => run_next_nilMap _ ty 0 0 #[]
    have e2 : (w.alloc (.cells #[.string n, .int .i64 t] 56)).heap.size = w.heap.size + 1 := by simp
    rw [e2] at hnx
    have HS : Hid (St ((w.alloc (.cells #[.string n, .int .i64 t] 56)).alloc (.mapIter none 0 #[] 0)) gs most none []) := h.below (lay hb1 _)
    have HT : Hid (Turn (fun k => (none : Option Nat) = some k) w ((w.alloc (.cells #[.string n, .int .i64 t] 56)).alloc (.mapIter none 0 #[] 0))) := Turn.of_below (lay hb1 _)
    clear h hs1 hb1
    go_enter Try.func19, Try.ntmps19
    go_wp2
    go_loopw [13] (fun _ wr => wr = (w.alloc (.cells #[.string n, .int .i64 t] 56)).alloc (.mapIter none 0 #[] 0)) (fun _ _ => 0)
    case atStart => exact rfl
    case round =>
      obtain rfl := hrel
      go_wp2
      go_end0
      exact ⟨rfl, HS.out, HT.out⟩
  | some b =>
    obtain ⟨hhold⟩ : Nonempty (Hold (w.alloc (.cells #[.string n, .int .i64 t] 56)) b L) := by
      rcases hs1.at' with ⟨e, _⟩ | ⟨b', e, hh⟩
      · cases e
      · cases e; exact ⟨hh⟩
    obtain ⟨D, hown, hm⟩ := hhold.own
    have hg := hhold.good
    have h1 := h.m1
    have h2 := h.m2
    have h3 := h.len
    have HST : Hid (∀ w', w'.ranges Try.prog 56 rE b (w.alloc (.cells #[.string n, .int .i64 t] 56)).heap.size L.length D (Maps.has D) (Maps.size D) → (w.alloc (.cells #[.string n, .int .i64 t] 56)).grownBy w' none → SWp w w' gs most b (w.alloc (.cells #[.string n, .int .i64 t] 56)).heap.size L (fltL n t now (Maps.has D) L) (Maps.has D) (Maps.size D) ∧ Blk w' w.heap.size #[.string n, .int .i64 t] 56) := fun w' hr hgr => ⟨by rw [flt_start hm hg]; exact sw_start h hb1 hm hr hgr, (Blk.new w _ _).below (grown_below hgr)⟩
    clear h hs1 hb1 hhold
    go_enter Try.func19, Try.ntmps19
    go_wp2_with (first
      | (at_range; refine wpList_range_own _ rfl _ 48 rfl 56 39 keyE Try.underlying48 rE b L.length D rfl hown ?_; intro w1 hr1 hg1 hs1; have HS1 := HST.out w1 hr1 hg1; clear hr1 hg1 hs1 HST)
      | go_in)
    go_frame
    have hrw : w.heap.size < (w.alloc (.cells #[.string n, .int .i64 t] 56)).heap.size := by simp
    generalize (w.alloc (.cells #[.string n, .int .i64 t] 56)).heap.size = r at HS1 hrw ⊢
    have HS : Hid (SWp w w1 gs most b r L (fltL n t now (Maps.has D) L) (Maps.has D) (Maps.size D) ∧ Blk w1 w.heap.size #[.string n, .int .i64 t] 56) := HS1
    clear HS1 hown hm c1
    go_loopw [13] (fun _ wr => ∃ (left : Lit → Bool) (cnt : Nat), Hid (SWp w wr gs most b r L (fltL n t now left L) left cnt ∧ Blk wr w.heap.size #[.string n, .int .i64 t] 56)) (fun _ wr => wr.rangeLeft b r)
    case atStart => exact ⟨_, _, HS⟩
    case round =>
      clear HS
      obtain ⟨left, cnt, HR⟩ := hrel
      obtain ⟨kk, D', hr', hm'⟩ := HR.out.1.rg
      go_wp2_with (first
        | (at_next; go_must (refine wpList_next_e _ rfl (.tmp 12) rfl b r kk cnt D' left (fltL n t now left L) rfl hr' hm' (hg.sub List.filter_sublist) ?_ ?_))
        | go_in)
      · intro _ hl0
        go_wp2
        go_end0
        refine ⟨rfl, ?_, ?_⟩
        · have := HR.out.1
          rw [flt_end hl0] at this
          exact this.st List.filter_sublist h1 h2 h3
        · exact HR.out.1.turn.more (fun k e => by rw [e])
      · intro pe pd w2 cnt2 hpm hlp hr2 hlt hg2 hsz2 hen
        obtain ⟨hpL, _⟩ := List.mem_filter.1 hpm
        have HK := HR.out
        have HM : Hid (SWp w w2 gs most b r L (fltL n t now left L) (nextL left (pe, pd)) cnt2 ∧ Blk w2 w.heap.size #[.string n, .int .i64 t] 56) := ⟨HK.1.moved hr2 hm' hg2, (Turn.of_grown (S := fun k => k = r) hg2 (fun k e => (Option.some.inj e).symm)).blk HK.2 (by omega)⟩
        have HLT : Hid (∀ c, wr.rangeLeft b r = c → c = cnt) := fun c hc => by rw [hr'.left_eq] at hc; exact hc.symm
        obtain ⟨y, c, hpd⟩ := row_shape (HK.1.dat _ hpL)
        have hok := (hg.ok _ hpL).k
        have HF1 : Hid (keepB n t now (pe, pd) = true → fltL n t now (nextL left (pe, pd)) L = fltL n t now left L) := fun hkk => flt_keep hg hpL hkk
        have HF2 : Hid (keepB n t now (pe, pd) = false → (fltL n t now left L).filter (fun q => !sameK pe.n pe.t q.1) = fltL n t now (nextL left (pe, pd)) L) := fun hkk => flt_drop hg hpL hkk
        clear HK hpm hlp hr2 hg2 hsz2 hpL hr' hm' HR
        unfold kyV eA at hen ⊢
        obtain ⟨pn, pt, pl, pds, pr, pu⟩ := pe
        simp only at hpd hok hen HF2 ⊢
        generalize pds.length = N at hpd
        subst hpd
        have c0 := HM.out.2.cell 0
        have c1 := HM.out.2.cell 1
        simp only [List.getElem?_toArray, List.getElem?_cons_succ, List.getElem?_cons_zero] at c0 c1
        have d0 : ∀ o o' : Obj, ((w2.alloc o).alloc o').cell? ⟨w.heap.size, 0, none⟩ = some (.string n) := fun o o' => ((HM.out.2.alloc o).alloc o').cell 0
        have d1 : ∀ o o' : Obj, ((w2.alloc o).alloc o').cell? ⟨w.heap.size, 1, none⟩ = some (.int .i64 t) := fun o o' => ((HM.out.2.alloc o).alloc o').cell 1
        cases hsame : sameK n t ⟨pn, pt, pl, pds, pr, pu⟩ with
        | true =>
          have hke := key_eq pn n pt t true (by have := sameK_iff.1 hsame; simp at this ⊢; exact this)
          have hkk : keepB n t now (⟨pn, pt, pl, pds, pr, pu⟩, .slice y N c) = false := by unfold keepB; rw [hsame]; rfl
          go_wp2
          have HW : Hid (SWp w ((w2.alloc (.cells #[.string pn, .int .i64 pt] 56)).alloc (.cells #[.string pn, .int .i64 pt, .int .i64 pl, .slice y N c, .int .i64 pr, .int .i64 pu] 39)) gs most b r L (fltL n t now left L) (nextL left (⟨pn, pt, pl, pds, pr, pu⟩, .slice y N c)) cnt2 ∧ Blk ((w2.alloc (.cells #[.string pn, .int .i64 pt] 56)).alloc (.cells #[.string pn, .int .i64 pt, .int .i64 pl, .slice y N c, .int .i64 pr, .int .i64 pu] 39)) w.heap.size #[.string n, .int .i64 t] 56) := ⟨HM.out.1.below (lay (lay (Below.refl _ _) _) _), HM.out.2.below (lay (lay (Below.refl _ _) _) _)⟩
          obtain ⟨k3, D3, hr3, hm3⟩ := (HW.out.1.below (Below.refl _ _).drew).rg
          have e1 : (((w2.alloc (.cells #[.string pn, .int .i64 pt] 56)).alloc (.cells #[.string pn, .int .i64 pt, .int .i64 pl, .slice y N c, .int .i64 pr, .int .i64 pu] 39))).cell? ⟨gs, 1, none⟩ = some (.map (some b)) := HW.out.1.blk.cell 1
          go_region_law ((refine step_del_e _ (by rfl) (.tmp 30) (.tmp 31) (by rfl) b r k3 cnt2 D3 _ pn pt (by rfl) (by rfl) hr3 (max_ok hok) (wf_ok hok) ?_; intro w4 cnt4 hr4 hle4 ht4))
          all_goals (have HN := sw_struck (HW.out.1.below (Below.refl _ _).drew) (hg.sub List.filter_sublist) hok hm3 (HF2.out hkk) hr4 ht4; have HBX := (Turn.of_grown (S := fun k => k = b) ht4.grown (fun k e => (Option.some.inj e).symm)).blk (HW.out.2.below (Below.refl _ _).drew) (fun e => by have := HN.oldb; omega); go_wp2; exact ⟨⟨_, _, HN, HBX⟩, by rw [hr4.left_eq, HLT.out _ rfl]; omega⟩)
        | false =>
          have hke := key_eq pn n pt t false (by cases hq : (decide (pn = n) && decide (pt = t)) with | false => rfl | true => (rw [show sameK n t ⟨pn, pt, pl, pds, pr, pu⟩ = true from hq] at hsame; cases hsame))
          have HB3 : Hid (Below w2.heap.size w2 ((w2.alloc (.cells #[.string pn, .int .i64 pt] 56)).alloc (.cells #[.string pn, .int .i64 pt, .int .i64 pl, .slice y N c, .int .i64 pr, .int .i64 pu] 39))) := lay (lay (Below.refl _ _) _) _
          have q0 : Blk ((w2.alloc (.cells #[.string pn, .int .i64 pt] 56)).alloc (.cells #[.string pn, .int .i64 pt, .int .i64 pl, .slice y N c, .int .i64 pr, .int .i64 pu] 39)) w2.heap.size #[.string pn, .int .i64 pt] 56 := (Blk.new w2 _ _).alloc _
          cases hlv : decide (now < pu) with
          | true =>
            have hkk : keepB n t now (⟨pn, pt, pl, pds, pr, pu⟩, .slice y N c) = true := by unfold keepB; rw [hsame]; simpa using hlv
            have hil := fun u => isLive_any pn pt pl pr pu now (.slice y N c) u rfl
            rw [hlv] at hil
            go_wp2_with (go_at_call 30; go_must (refine (hil _).mono ?_); rintro e w3 ⟨rfl, b3⟩)
            have HN := HM.out.1.below (next HB3.out b3)
            rw [← HF1.out hkk] at HN
            have HBX := HM.out.2.below (next HB3.out b3)
            have HL := HN.rg
            obtain ⟨k5, D5, hr5, _⟩ := HL
            go_roundw
            case rel => exact ⟨_, _, HN, HBX⟩
            case measure => rw [hr5.left_eq, HLT.out _ rfl]; omega
          | false =>
            have hkk : keepB n t now (⟨pn, pt, pl, pds, pr, pu⟩, .slice y N c) = false := by unfold keepB; rw [hsame]; simpa using hlv
            have hil := fun u => isLive_any pn pt pl pr pu now (.slice y N c) u rfl
            rw [hlv] at hil
            go_wp2_with (go_at_call 30; go_must (refine (hil _).mono ?_); rintro e w3 ⟨rfl, b3⟩; have q1 := (q0.below b3).cell 0; have q2 := (q0.below b3).cell 1; simp only [List.getElem?_toArray, List.getElem?_cons_succ, List.getElem?_cons_zero] at q1 q2)
            have HW : Hid (SWp w w3 gs most b r L (fltL n t now left L) (nextL left (⟨pn, pt, pl, pds, pr, pu⟩, .slice y N c)) cnt2 ∧ Blk w3 w.heap.size #[.string n, .int .i64 t] 56) := ⟨HM.out.1.below (next HB3.out b3), HM.out.2.below (next HB3.out b3)⟩
            obtain ⟨k3, D3, hr3, hm3⟩ := (HW.out.1.below (Below.refl _ _).drew).rg
            have e1 : (w3).cell? ⟨gs, 1, none⟩ = some (.map (some b)) := HW.out.1.blk.cell 1
            go_region_law ((refine step_del_e _ (by rfl) (.tmp 30) (.tmp 31) (by rfl) b r k3 cnt2 D3 _ pn pt (by rfl) (by rfl) hr3 (max_ok hok) (wf_ok hok) ?_; intro w4 cnt4 hr4 hle4 ht4))
            all_goals (have HN := sw_struck (HW.out.1.below (Below.refl _ _).drew) (hg.sub List.filter_sublist) hok hm3 (HF2.out hkk) hr4 ht4; have HBX := (Turn.of_grown (S := fun k => k = b) ht4.grown (fun k e => (Option.some.inj e).symm)).blk (HW.out.2.below (Below.refl _ _).drew) (fun e => by have := HN.oldb; omega); go_wp2; exact ⟨⟨_, _, HN, HBX⟩, by rw [hr4.left_eq, HLT.out _ rfl]; omega⟩)

end Go.Proofs.Ytcmhjlflgedcdab
