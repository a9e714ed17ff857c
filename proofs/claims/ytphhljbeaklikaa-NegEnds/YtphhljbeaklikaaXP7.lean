/- Structs as a whole out of their blocks and into them. -/
import Derived.Test.YtphhljbeaklikaaXP6
import Derived.Test.YtphhljbeaklikaaXP1
import Derived.Deep.WholeRow
import Derived.Test.YtphhljbeaklikaaXP3
import Derived.Laws.StructEq
import Derived.Laws.IdiomRangeMap
import Derived.Deep.RegionLaw
namespace Go.Proofs.Ytphhljbeaklikaa
open Go.RowKit
open Pl

def structB (T : TypeId) : Prop := ∃ fs, Try.prog.underlying T = some (.struct fs)
theorem load_s {w : World} {g : Nat} {C : Array Value} {t : TypeId} (T : TypeId) (hg : Blk w g C t) (hu : structB T) (hs : (Try.prog.info? T).map (·.size) = some C.size) : (loadVar T ⟨g, 0, none⟩).run Try.prog w = .ok (.agg C) w := by
  obtain ⟨fs, hq⟩ := hu
  exact run_loadVar_row _ _ t T C (0, 0) _ hg hq rfl hs
theorem store_s {w : World} {g : Nat} {Z C : Array Value} {t : TypeId} (T : TypeId) (hg : Blk w g Z t) (hs : (Try.prog.info? T).map (·.size) = some C.size) (hZ : Z.size = C.size) (h1 : C.all (·.oneCell') = true) :
    ∃ w', (storeVar T ⟨g, 0, none⟩ (.agg C)).run Try.prog w = .ok () w' ∧ Blk w' g C t ∧ Turn (fun k => k = g) w w' ∧ w'.heap.size = w.heap.size ∧ w'.drawn = w.drawn :=
  ⟨_, run_storeVar_row _ _ t T Z C hg hs hZ h1, setRow_heap _ _ Z _ t (0, 0) hg, Turn.of_grown (row := some g) ⟨rfl, rfl, rfl, by simp, fun k _ hne => setRow_other _ _ _ _ (fun e => hne (by rw [e]))⟩ (fun k e => (Option.some.inj e).symm), by simp, rfl⟩
/-- A whole struct out of its block. -/
theorem wpList_loadS (w : World) {ops : Array Oper} {rest : List Oper} {o : Oper} {a : Act} {Q : Exit → Act → World → Prop} (hgd : o.guard = none) (x : Operand) (T : TypeId) (ho : o.op = .load T x) (g : Nat) (C : Array Value) (t : TypeId)
    (hx : a.eval x = .pointer (some ⟨g, 0, none⟩)) (hg : Blk w g C t) (hu : structB T) (hs : (Try.prog.info? T).map (·.size) = some C.size)
    (h : wpList Try.prog ops Q rest (a.put o.dst (.agg C)) w) : wpList Try.prog ops Q (o :: rest) a w := by
  refine wpList_plain hgd fun K hK => ?_
  have hr : (Instr.loadAt T (.pointer (some ⟨g, 0, none⟩))).run Try.prog w = .ok (.agg C) w := by
    simp only [Instr.loadAt, Instr.sureAddr, Sem.run_bind, Sem.run_pure, Result.andThen]
    exact load_s T hg hu hs
  unfold Oper.wp execOp
  simp only [ho, hx, Sem.run_bind, hr, Result.andThen_ok, Sem.run_pure]
  exact hK _ _ h
/-- A whole struct into its block. -/
theorem wpList_storeS (w : World) {ops : Array Oper} {rest : List Oper} {o : Oper} {a : Act} {Q : Exit → Act → World → Prop} (hgd : o.guard = none) (x y : Operand) (T : TypeId) (ho : o.op = .store T x y) (g : Nat) (Z C : Array Value) (t : TypeId)
    (hx : a.eval x = .pointer (some ⟨g, 0, none⟩)) (hy : a.eval y = .agg C) (hg : Blk w g Z t) (hs : (Try.prog.info? T).map (·.size) = some C.size) (hZ : Z.size = C.size) (h1 : C.all (·.oneCell') = true)
    (h : ∀ w', Blk w' g C t → Turn (fun k => k = g) w w' → w'.heap.size = w.heap.size → w'.drawn = w.drawn → wpList Try.prog ops Q rest (a.put o.dst undef) w') : wpList Try.prog ops Q (o :: rest) a w := by
  refine wpList_plain hgd fun K hK => ?_
  obtain ⟨w', hrun, hb, ht, hz, hd⟩ := store_s T hg hs hZ h1
  have hr : (Instr.storeAt T (.pointer (some ⟨g, 0, none⟩)) (.agg C)).run Try.prog w = .ok () w' := by
    simp only [Instr.storeAt, Instr.sureAddr, Sem.run_bind, Sem.run_pure, Result.andThen]
    exact hrun
  unfold Oper.wp execOp
  simp only [ho, hx, hy, Sem.run_bind, hr, Result.andThen_ok, Sem.run_pure]
  exact hK _ _ (h _ hb ht hz hd)
/-- The same in a region that draws its order. -/
theorem step_storeS (w : World) {ops : Array Oper} {o : Oper} {a : Act} {K : Act → World → Prop} {Q : Exit → Act → World → Prop} {E : Prop} (hgd : o.guard = none) (x y : Operand) (T : TypeId) (ho : o.op = .store T x y) (g : Nat) (Z C : Array Value) (t : TypeId)
    (hx : a.eval x = .pointer (some ⟨g, 0, none⟩)) (hy : a.eval y = .agg C) (hg : Blk w g Z t) (hs : (Try.prog.info? T).map (·.size) = some C.size) (hZ : Z.size = C.size) (h1 : C.all (·.oneCell') = true)
    (h : ∀ w', Blk w' g C t → Turn (fun k => k = g) w w' → w'.heap.size = w.heap.size → w'.drawn = w.drawn → K (a.put o.dst undef) w') : if Region.wanted o (yielded ops a.tmps) = true then Oper.wp Try.prog o a w K Q else E := by
  have hw : Region.wanted o (yielded ops a.tmps) = true := by simp [Region.wanted, hgd]
  rw [if_pos hw]
  obtain ⟨w', hrun, hb, ht, hz, hd⟩ := store_s T hg hs hZ h1
  have hr : (Instr.storeAt T (.pointer (some ⟨g, 0, none⟩)) (.agg C)).run Try.prog w = .ok () w' := by
    simp only [Instr.storeAt, Instr.sureAddr, Sem.run_bind, Sem.run_pure, Result.andThen]
    exact hrun
  unfold Oper.wp execOp
  simp only [ho, hx, hy, Sem.run_bind, hr, Result.andThen_ok, Sem.run_pure]
  exact h _ hb ht hz hd
/-- What a function hands back out of its result's block. -/
theorem ret_s {fn : Func} {p : Tmp} {T : TypeId} (hf : fn.results = #[.cell p T]) {tmps : Array Value} {w : World} {g : Nat} {C : Array Value} {t : TypeId} (hp : tmps.getD p undef = .pointer (some ⟨g, 0, none⟩)) (hg : Blk w g C t) (hu : structB T) (hs : (Try.prog.info? T).map (·.size) = some C.size) :
    (results fn tmps).run Try.prog w = .ok (.agg C) w := by
  have hl := load_s T hg hu hs
  rw [results_cell hf, hp]
  simp only [asAddr, Sem.run_pure, Result.andThen]
  exact hl
theorem ret_s1 {fn : Func} {p q : Tmp} {T : TypeId} (hf : fn.results = #[.cell p T, .tmp q]) {tmps : Array Value} {w : World} {g : Nat} {C : Array Value} {t : TypeId} {v : Value} (hp : tmps.getD p undef = .pointer (some ⟨g, 0, none⟩)) (hq : tmps.getD q undef = v) (hg : Blk w g C t) (hu : structB T) (hs : (Try.prog.info? T).map (·.size) = some C.size) :
    (results fn tmps).run Try.prog w = .ok (.tuple #[.agg C, v]) w := by
  have hl := load_s T hg hu hs
  have ha : (asAddr (tmps.getD p undef)).run Try.prog w = .ok ⟨g, 0, none⟩ w := by rw [hp]; simp only [asAddr, Sem.run_pure]
  rw [Array.getD_eq_getD_getElem?] at ha hq
  simp only [results, hf]
  simp [Sem.run_bind, Result.andThen]
  rw [ha]
  simp only
  rw [hl, hq]
theorem ret_s2 {fn : Func} {p q r : Tmp} {T : TypeId} (hf : fn.results = #[.cell p T, .tmp q, .tmp r]) {tmps : Array Value} {w : World} {g : Nat} {C : Array Value} {t : TypeId} {v u : Value} (hp : tmps.getD p undef = .pointer (some ⟨g, 0, none⟩)) (hq : tmps.getD q undef = v) (hr : tmps.getD r undef = u) (hg : Blk w g C t) (hu : structB T) (hs : (Try.prog.info? T).map (·.size) = some C.size) :
    (results fn tmps).run Try.prog w = .ok (.tuple #[.agg C, v, u]) w := by
  have hl := load_s T hg hu hs
  have ha : (asAddr (tmps.getD p undef)).run Try.prog w = .ok ⟨g, 0, none⟩ w := by rw [hp]; simp only [asAddr, Sem.run_pure]
  rw [Array.getD_eq_getD_getElem?] at ha hq hr
  simp only [results, hf]
  simp [Sem.run_bind, Result.andThen]
  rw [ha]
  simp only
  rw [hl, hq, hr]
theorem Turn.one_below {w a b : World} {g : Nat} (h : Turn (fun k => k = g) a b) (hb : Below w.heap.size w a) (hg : w.heap.size ≤ g) : Below w.heap.size w b := Turn.below hb h hb.size (fun i e => by rw [e]; exact hg)

end Go.Proofs.Ytphhljbeaklikaa

/- The small functions of a Negs: isLive, keyOf, order, isWrong. -/
namespace Go.Proofs.Ytphhljbeaklikaa
open Go.RowKit
open Pl
namespace Ng

theorem isLive_any (u now : Int) (w : World) :
    Calls Try.prog 40 #[.int .i64 u, .int .i64 now] w fun e w' => e = .returned (.bool (decide (now < u))) ∧ w' = w := by
  go_enter Try.func40, Try.ntmps40
  go_wp2
  go_ret
  exact ⟨rfl, rfl⟩

theorem keyOf_any (n : ByteArray) (t : Int) (w : World) (hn : n.size ≤ maxLen) :
    Calls Try.prog 25 #[.string n, .int .i64 t] w fun e w' => e = .returned (kyV (fdB n) t) ∧ Below w.heap.size w w' := by
  unfold kyV fdB
  have hb : Below w.heap.size w (w.alloc (.cells #[.string ⟨#[]⟩, .int .i64 0] 63)) := lay (Below.refl _ _) _
  have hk := Blk.new w #[.string ⟨#[]⟩, .int .i64 0] 63
  go_enter Try.func25, Try.ntmps25
  go_wp2_with (first
    | (go_at_call 39; go_must (refine (fold_any _ _ hn).mono ?_); rintro e w1 ⟨rfl, b1⟩; replace hk := hk.below b1; replace hb := next hb b1)
    | (refine wpList_storeS _ rfl (.tmp 4) (.tmp 8) 63 rfl w.heap.size _ _ 63 rfl rfl hk (by kernel_rfl) rfl (by simp [Value.oneCell']) ?_; intro w2 k2 t2 _ _))
  refine bodyPost_ret (v := kyV (fdB n) t) (ret_s rfl rfl k2 ⟨_, Try.underlying63⟩ (by kernel_rfl)) rfl ⟨rfl, t2.one_below hb (Nat.le_refl _)⟩

/-- What order gives, what it lays and draws. -/
theorem order_d (a b : ByteArray) (s t : Int) (w : World) (ha : a.size ≤ maxLen) (hb : b.size ≤ maxLen) :
    Calls Try.prog 34 #[.agg #[.string a, .int .i64 s], .agg #[.string b, .int .i64 t]] w fun e w' => e = .returned (.int .i64 (cK a s b t)) ∧ Below w.heap.size w w' ∧ w.drawn ≤ w'.drawn := by
  have hbel : Below w.heap.size w ((w.alloc (.cells #[.string a, .int .i64 s] 63)).alloc (.cells #[.string b, .int .i64 t] 63)) := lay (lay (Below.refl _ _) _) _
  have k1 := (Blk.new w #[.string a, .int .i64 s] 63).alloc (.cells #[.string b, .int .i64 t] 63)
  have k2 := Blk.new (w.alloc (.cells #[.string a, .int .i64 s] 63)) #[.string b, .int .i64 t] 63
  have e2 : (w.alloc (.cells #[.string a, .int .i64 s] 63)).heap.size = w.heap.size + 1 := by simp
  rw [e2] at k2
  by_cases hz : cmpN a.data.toList b.data.toList = 0
  · have HC : Hid (cK a s b t = sgn s t) := by unfold Hid cK; rw [if_pos hz]
    have HZ : Hid (cmpN a.data.toList b.data.toList = 0) := hz
    clear hz
    have hcmp : ∀ u : World, Calls Try.prog 44 #[.string a, .string b] u fun e w' => e = .returned (.int .i64 0) ∧ Below u.heap.size u w' ∧ u.drawn ≤ w'.drawn := fun u => by have := compare_d a b u ha hb; rw [HZ.out] at this; exact this
    go_enter Try.func34, Try.ntmps34
    go_wp2_with (first
      | (go_at_call 44; go_must (refine (hcmp _).mono ?_); rintro e w1 ⟨rfl, b1, d1⟩; have c1 := (k1.below b1).cell 1; have c2 := (k2.below b1).cell 1; simp only [List.getElem?_toArray, List.getElem?_cons_succ, List.getElem?_cons_zero] at c1 c2)
      | (go_at_call 45; go_must (refine (cmpI_any _ _ _).mono ?_); rintro e w' ⟨rfl, hw⟩; obtain rfl := hw.symm))
    go_ret
    exact ⟨ret_int HC.out.symm, next hbel b1, d1⟩
  · have HC : Hid (cK a s b t = cmpN a.data.toList b.data.toList) := by unfold Hid cK; rw [if_neg hz]
    have hz2 : (cmpN a.data.toList b.data.toList != 0) = true := by simpa using hz
    clear hz
    go_enter Try.func34, Try.ntmps34
    go_wp2_with (go_at_call 44; go_must (refine (compare_d a b _ ha hb).mono ?_); rintro e w1 ⟨rfl, b1, d1⟩)
    go_ret
    exact ⟨ret_int HC.out.symm, next hbel b1, d1⟩

theorem isWrong_any (n : ByteArray) (t u now : Int) (w : World) (hn : n.size ≤ maxLen) (b : Bool) (hb : mayN (nE n t u) now = b) :
    Calls Try.prog 24 #[.agg #[.string n, .int .i64 t, .int .i64 u], .int .i64 now] w fun e w' => e = .returned (.bool (!b)) ∧ Below w.heap.size w w' := by
  have HB : Hid ((isName n.data.toList && decide (0 ≤ t) && decide (t ≤ 65535) && decide (now < u) && decide (0 ≤ now) && decide (now ≤ 1099511627776)) = b) := hb
  clear hb
  cases h0 : isName n.data.toList with
  | false =>
    have hb0 : b = false := by have := HB.out; rw [h0] at this; simpa using this.symm
    subst hb0
    go_enter Try.func24, Try.ntmps24
    go_wp2_with (go_at_call 38; go_must (refine (may_as _ false _ hn h0).mono ?_); rintro e w' ⟨rfl, hw⟩; obtain rfl := hw.symm)
    go_ret
    exact ⟨rfl, lay (Below.refl _ _) _⟩
  | true =>
    by_cases c0 : t < 0
    · have hb0 : b = false := by have := HB.out; rw [show decide (0 ≤ t) = false from by simp; omega] at this; simp at this; exact this
      subst hb0
      go_enter Try.func24, Try.ntmps24
      go_wp2_with (go_at_call 38; go_must (refine (may_as _ true _ hn h0).mono ?_); rintro e w' ⟨rfl, hw⟩; obtain rfl := hw.symm)
      go_ret
      exact ⟨rfl, lay (Below.refl _ _) _⟩
    · have d0 : decide (t < 0) = false := by simp; omega
      by_cases c1 : 65535 < t
      · have hb0 : b = false := by have := HB.out; rw [show decide (t ≤ 65535) = false from by simp; omega] at this; simp at this; exact this
        subst hb0
        go_enter Try.func24, Try.ntmps24
        go_wp2_with (go_at_call 38; go_must (refine (may_as _ true _ hn h0).mono ?_); rintro e w' ⟨rfl, hw⟩; obtain rfl := hw.symm)
        go_ret
        exact ⟨rfl, lay (Below.refl _ _) _⟩
      · have d1 : decide (65535 < t) = false := by simp; omega
        by_cases c2 : u ≤ now
        · have hb0 : b = false := by have := HB.out; rw [show decide (now < u) = false from by simp; omega] at this; simp at this; exact this
          subst hb0
          go_enter Try.func24, Try.ntmps24
          go_wp2_with (go_at_call 38; go_must (refine (may_as _ true _ hn h0).mono ?_); rintro e w' ⟨rfl, hw⟩; obtain rfl := hw.symm)
          go_ret
          exact ⟨rfl, lay (Below.refl _ _) _⟩
        · have d2 : decide (u ≤ now) = false := by simp; omega
          by_cases c3 : now < 0
          · have hb0 : b = false := by have := HB.out; rw [show decide (0 ≤ now) = false from by simp; omega] at this; simp at this; exact this
            subst hb0
            go_enter Try.func24, Try.ntmps24
            go_wp2_with (go_at_call 38; go_must (refine (may_as _ true _ hn h0).mono ?_); rintro e w' ⟨rfl, hw⟩; obtain rfl := hw.symm)
            go_ret
            exact ⟨rfl, lay (Below.refl _ _) _⟩
          · have d3 : decide (now < 0) = false := by simp; omega
            by_cases c4 : 1099511627776 < now
            · have hb0 : b = false := by have := HB.out; rw [show decide (now ≤ 1099511627776) = false from by simp; omega] at this; simp at this; exact this
              subst hb0
              go_enter Try.func24, Try.ntmps24
              go_wp2_with (go_at_call 38; go_must (refine (may_as _ true _ hn h0).mono ?_); rintro e w' ⟨rfl, hw⟩; obtain rfl := hw.symm)
              go_ret
              exact ⟨rfl, lay (Below.refl _ _) _⟩
            · have d4 : decide (1099511627776 < now) = false := by simp; omega
              have hb0 : b = true := by have := HB.out; rw [h0] at this; rw [← this]; simp; omega
              subst hb0
              go_enter Try.func24, Try.ntmps24
              go_wp2_with (go_at_call 38; go_must (refine (may_as _ true _ hn h0).mono ?_); rintro e w' ⟨rfl, hw⟩; obtain rfl := hw.symm)
              go_ret
              exact ⟨rfl, lay (Below.refl _ _) _⟩

end Ng
end Go.Proofs.Ytphhljbeaklikaa

/- What a Negs tells: isHeld, Nx, Nodata. -/
namespace Go.Proofs.Ytphhljbeaklikaa
open Go.RowKit
open Pl
namespace Ng

theorem hasN_at {L : List En} (hg : Good L) (n : ByteArray) (t now : Int) : (L.any fun y => sameK n t y && decide (now < y.u)) = (match atL L n t with | some p => decide (now < p.u) | none => false) := by
  cases h : atL L n t with
  | none =>
    simp only
    rw [List.any_eq_false]
    intro p hp
    rw [atL_none h p hp]; simp
  | some p =>
    obtain ⟨h1, rfl, rfl⟩ := atL_some h
    simp only
    rw [Bool.eq_iff_iff, List.any_eq_true]
    constructor
    · rintro ⟨q, hq, hs⟩
      simp only [Bool.and_eq_true] at hs
      rw [hg.one h1 hq hs.1]
      exact hs.2
    · intro h2
      exact ⟨p, h1, by rw [sameK_iff.2 ⟨rfl, rfl⟩, h2]; rfl⟩

set_option maxRecDepth 20000 in
theorem isHeld_any {w : World} {gs most : Nat} {mb : Option Nat} {L : List En} (h : St w gs most mb L) (n : ByteArray) (t now : Int) (hn : n.size ≤ maxLen) (ht : (Lit.int .i64 t).wf = true) :
    Calls Try.prog 31 #[.pointer (some ⟨gs, 0, none⟩), .agg #[.string n, .int .i64 t], .int .i64 now] w fun e w' => e = .returned (.bool (L.any fun y => sameK n t y && decide (now < y.u))) ∧ Below w.heap.size w w' := by
  have hgd := h.at'.good
  have hb : Below w.heap.size w (w.alloc (.cells #[.string n, .int .i64 t] 63)) := lay (Below.refl _ _) _
  have hs := h.below hb
  have c1 : (w.alloc (.cells #[.string n, .int .i64 t] 63)).cell? ⟨gs, 1, none⟩ = some (.map mb) := hs.blk.cell 1
  have k1 := Blk.new w #[.string n, .int .i64 t] 63
  have d0 := k1.cell 0
  have d1 := k1.cell 1
  simp only [List.getElem?_toArray, List.getElem?_cons_succ, List.getElem?_cons_zero] at d0 d1
  rw [hasN_at hgd]
  cases ha : atL L n t with
  | none =>
    have hlk := (hs.at'.below ((Below.refl _ _).drew)).look hn ht
    have e1 : vL L n t = .int .i64 0 := by unfold vL; rw [ha]; rfl
    have e2 : bL L n t = false := by unfold bL; rw [ha]; rfl
    rw [e1, e2] at hlk
    unfold kyV at hlk
    clear e1 e2 ha hs h
    go_enter Try.func31, Try.ntmps31
    go_wp2
    go_region
    go_wp2
    go_ret
    exact ⟨rfl, hb.drew⟩
  | some p =>
    have hlk := (hs.at'.below ((Below.refl _ _).drew)).look hn ht
    have e1 : vL L n t = .int .i64 p.u := by unfold vL; rw [ha]
    have e2 : bL L n t = true := by unfold bL; rw [ha]; rfl
    rw [e1, e2] at hlk
    unfold kyV at hlk
    simp only
    generalize p.u = pu at hlk ⊢
    clear e1 e2 ha hs h
    go_enter Try.func31, Try.ntmps31
    go_wp2
    go_region
    go_wp2_with (go_at_call 40; go_must (refine (isLive_any pu now _).mono ?_); rintro e w' ⟨rfl, hw⟩; obtain rfl := hw.symm)
    go_ret
    exact ⟨rfl, hb.drew⟩

theorem nx_any {w : World} {gs most : Nat} {mb : Option Nat} {L : List En} (h : St w gs most mb L) (n : ByteArray) (now : Int) (hn : n.size ≤ maxLen) (b : Bool) (hb : hasN L n 0 now = b) :
    Calls Try.prog 14 #[.pointer (some ⟨gs, 0, none⟩), .string n, .int .i64 now] w fun e w' => e = .returned (.bool b) ∧ Below w.heap.size w w' := by
  have HB : Hid (hasN L n 0 now = b) := hb
  have hf : (fdB n).size ≤ maxLen := fd_size hn
  clear hb
  go_enter Try.func14, Try.ntmps14
  go_wp2_with (first
    | (go_at_call 25; go_must (refine (keyOf_any n 0 _ hn).mono ?_); rintro e w1 ⟨rfl, b1⟩; unfold kyV)
    | (go_at_call 31; go_must (refine (isHeld_any (h.below b1) (fdB n) 0 now hf (WalkArith.wf_i64 (by omega))).mono ?_); rintro e w2 ⟨rfl, b2⟩))
  go_ret
  exact ⟨ret_bool HB.out, next b1 b2⟩

theorem nodata_any {w : World} {gs most : Nat} {mb : Option Nat} {L : List En} (h : St w gs most mb L) (n : ByteArray) (t now : Int) (hn : n.size ≤ maxLen) (ht : (Lit.int .i64 t).wf = true) (b : Bool) (hb : (!decide (t = 0) && hasN L n t now) = b) :
    Calls Try.prog 16 #[.pointer (some ⟨gs, 0, none⟩), .string n, .int .i64 t, .int .i64 now] w fun e w' => e = .returned (.bool b) ∧ Below w.heap.size w w' := by
  have hf : (fdB n).size ≤ maxLen := fd_size hn
  by_cases h0 : t = 0
  · have hb0 : b = false := by rw [← hb]; simp [h0]
    subst h0
    subst hb0
    go_enter Try.func16, Try.ntmps16
    go_wp2
    go_ret
    exact ⟨rfl, Below.refl _ _⟩
  · have h0' : (t != 0) = true := by simpa using h0
    have HB : Hid (hasN L n t now = b) := by unfold Hid; rw [← hb]; simp [h0]
    clear hb h0
    go_enter Try.func16, Try.ntmps16
    go_wp2_with (first
      | (go_at_call 25; go_must (refine (keyOf_any n t _ hn).mono ?_); rintro e w1 ⟨rfl, b1⟩; unfold kyV)
      | (go_at_call 31; go_must (refine (isHeld_any (h.below b1) (fdB n) t now hf ht).mono ?_); rintro e w2 ⟨rfl, b2⟩))
    go_ret
    exact ⟨ret_bool HB.out, next b1 b2⟩

end Ng
end Go.Proofs.Ytphhljbeaklikaa

/- What sweep of a Negs does. -/
namespace Go.Proofs.Ytphhljbeaklikaa
open Go.RowKit
open Pl
namespace Ng

theorem key_eq (a b : ByteArray) (s t : Int) (v : Bool) (h : (decide (a = b) && decide (s = t)) = v) (u : World) : (binOp .eql 63 (.agg #[.string a, .int .i64 s]) (.agg #[.string b, .int .i64 t])).run Try.prog u = .ok (.bool v) u := by
  have h1 := run_eql_struct (P := Try.prog) (w := u) 63 #[.string a, .int .i64 s] #[.string b, .int .i64 t]
  rw [h1]
  rw [show (10000 : Nat) = 9999 + 1 from rfl, run_equalIn_struct (P := Try.prog) u 9999 63 #[.string a, .int .i64 s] #[.string b, .int .i64 t] (by kernel_rfl) (by kernel_rfl)]
  go_simp
  subst h
  by_cases h2 : a = b
  · subst h2
    by_cases h3 : s = t
    · simp [h3]
    · simp [h3]
  · have h4 : ¬ a.toList = b.toList := fun e => h2 (bytes_ext (by rw [ByteArray.toList_eq, ByteArray.toList_eq] at e; exact e))
    simp [h2, h4]

/-- delete, in a region that draws its order, while the map is ranged over. -/
theorem step_del_e (w : World) {ops : Array Oper} {o : Oper} {a : Act} {K : Act → World → Prop} {Q : Exit → Act → World → Prop} {E : Prop} (hgd : o.guard = none) (m x : Operand)
    (ho : o.op = .call { callee := .builtin .delete, args := #[m, x], argTypes := #[56, 63] }) (b r n cnt : Nat) (D : DataW Int) (left : Lit → Bool) (kn : ByteArray) (kt : Int) (hm : a.eval m = .map (some b)) (hx : a.eval x = .agg #[.string kn, .int .i64 kt])
    (h : w.ranges Try.prog 63 rE b r n D left cnt) (hn : kn.size ≤ maxLen) (ht : (Lit.int .i64 kt).wf = true)
    (hK : ∀ w' cnt', w'.ranges Try.prog 63 rE b r n (D.del (kyL kn kt)) (fun z => left z && !z.sameKey (kyL kn kt)) cnt' → cnt' ≤ cnt → w.mapTurned w' b → K (a.put o.dst (.tuple #[])) w') :
    if Region.wanted o (yielded ops a.tmps) = true then Oper.wp Try.prog o a w K Q else E := by
  have hw : Region.wanted o (yielded ops a.tmps) = true := by simp [Region.wanted, hgd]
  rw [if_pos hw]
  obtain ⟨w', cnt', hrun, r1, r2, r3⟩ := h.drop keyE Try.underlying56 (keyOf_e hn ht) o.type
  have hrun2 : (Builtin.delete_ #[56, 63] o.type #[.map (some b), .agg #[.string kn, .int .i64 kt]]).run Try.prog w = .ok (.tuple #[]) w' := hrun
  unfold Oper.wp
  simp only [execOp, ho, resolve, invoke, builtin, Sem.run_bind, Sem.run_pure, Result.andThen_ok, List.map_toArray, List.map_cons, List.map_nil, hm, hx, hrun2]
  exact hK _ _ r1 r2 r3
/-- delete, in a region that draws its order. -/
theorem step_del_o (w : World) {ops : Array Oper} {o : Oper} {a : Act} {K : Act → World → Prop} {Q : Exit → Act → World → Prop} {E : Prop} (hgd : o.guard = none) (m x : Operand)
    (ho : o.op = .call { callee := .builtin .delete, args := #[m, x], argTypes := #[56, 63] }) (b n : Nat) (D : DataW Int) (kn : ByteArray) (kt : Int) (hm : a.eval m = .map (some b)) (hx : a.eval x = .agg #[.string kn, .int .i64 kt])
    (h : w.ownsMap Try.prog 63 rE b n D) (hn : kn.size ≤ maxLen) (ht : (Lit.int .i64 kt).wf = true)
    (hK : ∀ w', w'.ownsMap Try.prog 63 rE b n (D.del (kyL kn kt)) → w.mapTurned w' b → K (a.put o.dst (.tuple #[])) w') :
    if Region.wanted o (yielded ops a.tmps) = true then Oper.wp Try.prog o a w K Q else E := by
  have hw : Region.wanted o (yielded ops a.tmps) = true := by simp [Region.wanted, hgd]
  rw [if_pos hw]
  obtain ⟨w', hrun, r1, r3⟩ := h.drop keyE Try.underlying56 (keyOf_e hn ht) o.type
  have hrun2 : (Builtin.delete_ #[56, 63] o.type #[.map (some b), .agg #[.string kn, .int .i64 kt]]).run Try.prog w = .ok (.tuple #[]) w' := hrun
  unfold Oper.wp
  simp only [execOp, ho, resolve, invoke, builtin, Sem.run_bind, Sem.run_pure, Result.andThen_ok, List.map_toArray, List.map_cons, List.map_nil, hm, hx, hrun2]
  exact hK _ r1 r3

/-- What stays. -/
def keepB (n : ByteArray) (t now : Int) (p : En) : Bool := !sameK n t p && decide (now < p.u)
def fltL (n : ByteArray) (t now : Int) (left : Lit → Bool) (L : List En) : List En := L.filter fun p => left (kyL p.n p.t) || keepB n t now p
def nextL (left : Lit → Bool) (p : En) : Lit → Bool := fun x => left x && !x.sameKey (kyL p.n p.t)
theorem nextL_at {L : List En} (hg : Good L) {p q : En} (hp : p ∈ L) (hq : q ∈ L) (left : Lit → Bool) : nextL left p (kyL q.n q.t) = (left (kyL q.n q.t) && !sameK p.n p.t q) := by
  unfold nextL
  rw [same_ky (hg.ok q hq) (max_ok (hg.ok p hp).k) (wf_ok (hg.ok p hp).k)]
theorem flt_keep {L : List En} (hg : Good L) {p : En} (hp : p ∈ L) {n : ByteArray} {t now : Int} {left : Lit → Bool} (hk : keepB n t now p = true) : fltL n t now (nextL left p) L = fltL n t now left L := by
  unfold fltL
  refine List.filter_congr (fun q hq => ?_)
  rw [nextL_at hg hp hq]
  cases hs : sameK p.n p.t q with
  | false => simp
  | true =>
    obtain rfl := hg.one hp hq hs
    rw [hk]; simp
theorem flt_drop {L : List En} (hg : Good L) {p : En} (hp : p ∈ L) {n : ByteArray} {t now : Int} {left : Lit → Bool} (hk : keepB n t now p = false) : (fltL n t now left L).filter (fun q => !sameK p.n p.t q) = fltL n t now (nextL left p) L := by
  unfold fltL
  rw [List.filter_filter]
  refine List.filter_congr (fun q hq => ?_)
  rw [nextL_at hg hp hq]
  cases hs : sameK p.n p.t q with
  | false => simp
  | true =>
    obtain rfl := hg.one hp hq hs
    rw [hk]; simp
theorem flt_end {L : List En} {n : ByteArray} {t now : Int} {left : Lit → Bool} (h : ∀ kl, left kl = false) : fltL n t now left L = L.filter (keepB n t now) := by
  unfold fltL
  refine List.filter_congr (fun q _ => ?_)
  rw [h]; rfl
theorem flt_start {D : DataW Int} {L : List En} (hm : MapOf D L) (hg : Good L) (n : ByteArray) (t now : Int) : fltL n t now (Maps.has D) L = L := by
  unfold fltL
  refine List.filter_eq_self.2 (fun q hq => ?_)
  rw [mapOf_has hm hg (max_ok (hg.ok q hq).k) (wf_ok (hg.ok q hq).k), List.any_eq_true.2 ⟨q, hq, sameK_iff.2 ⟨rfl, rfl⟩⟩]
  rfl

/-- A range over the map of a store, under way. -/
structure SWp (w0 w : World) (gs most b r : Nat) (L M : List En) (left : Lit → Bool) (cnt : Nat) : Prop where
  rg : ∃ k D, w.ranges Try.prog 63 rE b r k D left cnt ∧ MapOf D M
  good : Good L
  blk : Blk w gs #[.int .i64 most, .map (some b)] 58
  turn : Turn (fun k => k = b) w0 w
  oldb : b < w0.heap.size
  oldg : gs < w0.heap.size
  new : w0.heap.size ≤ r
theorem blk_not_map {w : World} {b g : Nat} {es : Array MapEntry} {clock : Nat} (hb : w.heap[b]? = some (.map es clock)) {C : Array Value} {t : TypeId} (h : Blk w g C t) : g ≠ b := by
  intro e; subst e
  have h' : w.heap[g]? = some (.cells C t (0, 0)) := h
  rw [h'] at hb; cases hb
theorem SWp.below {w0 w w' : World} {gs most b r : Nat} {L M : List En} {left : Lit → Bool} {cnt : Nat} (h : SWp w0 w gs most b r L M left cnt) (hb : Below w.heap.size w w') : SWp w0 w' gs most b r L M left cnt := by
  obtain ⟨k, D, hr, hm⟩ := h.rg
  exact ⟨⟨k, D, hr.kept (row := none) ⟨hb.os, hb.tape, hb.output, hb.size, fun k hk _ => hb.block k hk⟩ (by simp) (by simp), hm⟩, h.good, h.blk.below hb, h.turn.past hb, h.oldb, h.oldg, h.new⟩
theorem SWp.moved {w0 w w' : World} {gs most b r : Nat} {L M : List En} {left left' : Lit → Bool} {cnt cnt' k : Nat} {D : DataW Int} (h : SWp w0 w gs most b r L M left cnt) (hr : w'.ranges Try.prog 63 rE b r k D left' cnt') (hm : MapOf D M) (hg : w.grownBy w' (some r)) : SWp w0 w' gs most b r L M left' cnt' := by
  have ht : Turn (fun k => k = r) w w' := Turn.of_grown hg (fun k e => (Option.some.inj e).symm)
  have hn := h.new
  exact ⟨⟨k, D, hr, hm⟩, h.good, ht.blk h.blk (by have := h.oldg; omega), h.turn.trans ht (fun i hi => .inr (by omega)), h.oldb, h.oldg, h.new⟩
theorem SWp.struck {w0 w w' : World} {gs most b r : Nat} {L M N : List En} {left left' : Lit → Bool} {cnt cnt' k : Nat} {D : DataW Int} (h : SWp w0 w gs most b r L M left cnt) (hr : w'.ranges Try.prog 63 rE b r k D left' cnt') (hm : MapOf D N) (ht : w.mapTurned w' b) : SWp w0 w' gs most b r L N left' cnt' := by
  obtain ⟨k0, D0, hr0, _⟩ := h.rg
  obtain ⟨es, clock, hb, _⟩ := hr0.owns
  have ht2 : Turn (fun k => k = b) w w' := Turn.of_grown ht.grown (fun k e => (Option.some.inj e).symm)
  exact ⟨⟨k, D, hr, hm⟩, h.good, ht2.blk h.blk (blk_not_map hb h.blk), h.turn.same ht2, h.oldb, h.oldg, h.new⟩
/-- A range begins. -/
theorem sw_start {w0 w w' : World} {gs most b : Nat} {L : List En} {D : DataW Int} (h : St w0 gs most (some b) L) (hb : Below w0.heap.size w0 w) (hm : MapOf D L) (hr : w'.ranges Try.prog 63 rE b w.heap.size L.length D (Maps.has D) (Maps.size D)) (hg : w.grownBy w' none) :
    SWp w0 w' gs most b w.heap.size L L (Maps.has D) (Maps.size D) := by
  have hb2 : Below w0.heap.size w0 w' := next hb (grown_below hg)
  have hs := h.below hb2
  have hl := h.lt
  rcases hs.at' with ⟨e, _⟩ | ⟨b', e, hh⟩
  · cases e
  · cases e
    exact ⟨⟨_, D, hr, hm⟩, hh.good, hs.blk, Turn.of_below hb2, hl b (.inr rfl), hl gs (.inl rfl), hb.size⟩
theorem SWp.st {w0 w : World} {gs most b r : Nat} {L M : List En} {left : Lit → Bool} {cnt : Nat} (h : SWp w0 w gs most b r L M left cnt) (hs : M.Sublist L) (h1 : 1 ≤ most) (h2 : most ≤ 256) (hl : L.length ≤ most) : St w gs most (some b) M := by
  obtain ⟨k, D, hr, hm⟩ := h.rg
  exact ⟨h.blk, h1, h2, Nat.le_trans hs.length_le hl, .inr ⟨b, rfl, ⟨k, D, hr.owns, hm⟩, h.good.sub hs⟩⟩

theorem sw_struck {w0 w w' : World} {gs most b r : Nat} {L M N : List En} {left : Lit → Bool} {cnt cnt' k : Nat} {D : DataW Int} {p : En} (h : SWp w0 w gs most b r L M (nextL left p) cnt) (hg : Good M) (hok : OkK p.n p.t) (hm : MapOf D M) (hN : M.filter (fun q => !sameK p.n p.t q) = N)
    (hr : w'.ranges Try.prog 63 rE b r k (D.del (kyL p.n p.t)) (fun z => nextL left p z && !z.sameKey (kyL p.n p.t)) cnt') (ht : w.mapTurned w' b) : SWp w0 w' gs most b r L N (nextL left p) cnt' := by
  have e : (fun z => nextL left p z && !z.sameKey (kyL p.n p.t)) = nextL left p := Maps.strike_twice left (kyL p.n p.t)
  rw [e] at hr
  have := mapOf_del hm hg (max_ok hok) (wf_ok hok)
  rw [hN] at this
  exact h.struck hr this ht

set_option maxRecDepth 20000 in
set_option maxHeartbeats 2000000 in
theorem sweep_any {w : World} {gs most : Nat} {mb : Option Nat} {L : List En} (h : St w gs most mb L) (n : ByteArray) (t now : Int) (_hk : OkK n t) :
    Calls Try.prog 26 #[.pointer (some ⟨gs, 0, none⟩), .agg #[.string n, .int .i64 t], .int .i64 now] w fun e w' => e = .returned (.tuple #[]) ∧ St w' gs most mb (L.filter (keepB n t now)) ∧ Turn (fun k => mb = some k) w w' := by
  have hb1 : Below w.heap.size w (w.alloc (.cells #[.string n, .int .i64 t] 63)) := lay (Below.refl _ _) _
  have hs1 := h.below hb1
  have c1 : (w.alloc (.cells #[.string n, .int .i64 t] 63)).cell? ⟨gs, 1, none⟩ = some (.map mb) := hs1.blk.cell 1
  cases mb with
  | none =>
    have hL : L = [] := by
      rcases h.at' with ⟨_, e⟩ | ⟨b, e, _⟩
      · exact e
      · cases e
    subst hL
    have hrg := run_range_nilMap (P := Try.prog) (w.alloc (.cells #[.string n, .int .i64 t] 63)) 56 63 3 Try.underlying56
    have hnx : ∀ ty, (Instr.next (.pointer (some ⟨(w.alloc (.cells #[.string n, .int .i64 t] 63)).heap.size, 0, none⟩)) false ty).run Try.prog ((w.alloc (.cells #[.string n, .int .i64 t] 63)).alloc (.mapIter none 0 #[] 0)) = _ := fun ty => run_next_nilMap _ ty 0 0 #[]
    have e2 : (w.alloc (.cells #[.string n, .int .i64 t] 63)).heap.size = w.heap.size + 1 := by simp
    rw [e2] at hnx
    have HS : Hid (St ((w.alloc (.cells #[.string n, .int .i64 t] 63)).alloc (.mapIter none 0 #[] 0)) gs most none []) := h.below (lay hb1 _)
    have HT : Hid (Turn (fun k => (none : Option Nat) = some k) w ((w.alloc (.cells #[.string n, .int .i64 t] 63)).alloc (.mapIter none 0 #[] 0))) := Turn.of_below (lay hb1 _)
    clear h hs1 hb1
    go_enter Try.func26, Try.ntmps26
    go_wp2
    go_loopw [13] (fun _ wr => wr = (w.alloc (.cells #[.string n, .int .i64 t] 63)).alloc (.mapIter none 0 #[] 0)) (fun _ _ => 0)
    case atStart => exact rfl
    case round =>
      obtain rfl := hrel
      go_wp2
      go_end0
      exact ⟨rfl, HS.out, HT.out⟩
  | some b =>
    obtain ⟨hhold⟩ : Nonempty (Hold (w.alloc (.cells #[.string n, .int .i64 t] 63)) b L) := by
      rcases hs1.at' with ⟨e, _⟩ | ⟨b', e, hh⟩
      · cases e
      · cases e; exact ⟨hh⟩
    obtain ⟨D, hown, hm⟩ := hhold.own
    have hg := hhold.good
    have h1 := h.m1
    have h2 := h.m2
    have h3 := h.len
    have HST : Hid (∀ w', w'.ranges Try.prog 63 rE b (w.alloc (.cells #[.string n, .int .i64 t] 63)).heap.size L.length D (Maps.has D) (Maps.size D) → (w.alloc (.cells #[.string n, .int .i64 t] 63)).grownBy w' none → SWp w w' gs most b (w.alloc (.cells #[.string n, .int .i64 t] 63)).heap.size L (fltL n t now (Maps.has D) L) (Maps.has D) (Maps.size D) ∧ Blk w' w.heap.size #[.string n, .int .i64 t] 63) := fun w' hr hgr => ⟨by rw [flt_start hm hg]; exact sw_start h hb1 hm hr hgr, (Blk.new w _ _).below (grown_below hgr)⟩
    clear h hs1 hb1 hhold
    go_enter Try.func26, Try.ntmps26
    go_wp2_with (first
      | (at_range; refine wpList_range_own _ rfl _ 56 rfl 63 3 keyE Try.underlying56 rE b L.length D rfl hown ?_; intro w1 hr1 hg1 hs1; have HS1 := HST.out w1 hr1 hg1; clear hr1 hg1 hs1 HST)
      | go_in)
    go_frame
    have hrw : w.heap.size < (w.alloc (.cells #[.string n, .int .i64 t] 63)).heap.size := by simp
    generalize (w.alloc (.cells #[.string n, .int .i64 t] 63)).heap.size = r at HS1 hrw ⊢
    have HS : Hid (SWp w w1 gs most b r L (fltL n t now (Maps.has D) L) (Maps.has D) (Maps.size D) ∧ Blk w1 w.heap.size #[.string n, .int .i64 t] 63) := HS1
    clear HS1 hown hm c1
    go_loopw [13] (fun _ wr => ∃ (left : Lit → Bool) (cnt : Nat), Hid (SWp w wr gs most b r L (fltL n t now left L) left cnt ∧ Blk wr w.heap.size #[.string n, .int .i64 t] 63)) (fun _ wr => wr.rangeLeft b r)
    case atStart => exact ⟨_, _, HS⟩
    case round =>
      clear HS
      obtain ⟨left, cnt, HR⟩ := hrel
      obtain ⟨kk, D', hr', hm'⟩ := HR.out.1.rg
      go_wp2_with (first
        | (at_next; go_must (refine wpList_next_e _ rfl (.tmp 12) rfl b r kk cnt D' left (fltL n t now left L) rfl hr' hm' (hg.sub List.filter_sublist) ?_ ?_))
        | go_in)
      · intro _ hl0
        go_wp2
        go_end0
        refine ⟨rfl, ?_, ?_⟩
        · have := HR.out.1
          rw [flt_end hl0] at this
          exact this.st List.filter_sublist h1 h2 h3
        · exact HR.out.1.turn.more (fun k e => by rw [e])
      · intro pe w2 cnt2 hpm hlp hr2 hlt hg2 hsz2 hen
        obtain ⟨hpL, _⟩ := List.mem_filter.1 hpm
        have HK := HR.out
        have HM : Hid (SWp w w2 gs most b r L (fltL n t now left L) (nextL left pe) cnt2 ∧ Blk w2 w.heap.size #[.string n, .int .i64 t] 63) := ⟨HK.1.moved hr2 hm' hg2, (Turn.of_grown (S := fun k => k = r) hg2 (fun k e => (Option.some.inj e).symm)).blk HK.2 (by omega)⟩
        have HLT : Hid (∀ c, wr.rangeLeft b r = c → c = cnt) := fun c hc => by rw [hr'.left_eq] at hc; exact hc.symm
        have hok := (hg.ok _ hpL).k
        have HF1 : Hid (keepB n t now pe = true → fltL n t now (nextL left pe) L = fltL n t now left L) := fun hkk => flt_keep hg hpL hkk
        have HF2 : Hid (keepB n t now pe = false → (fltL n t now left L).filter (fun q => !sameK pe.n pe.t q) = fltL n t now (nextL left pe) L) := fun hkk => flt_drop hg hpL hkk
        clear HK hpm hlp hr2 hg2 hsz2 hpL hr' hm' HR
        unfold kyV at hen ⊢
        obtain ⟨pn, pt, pl, pds, pr, pu⟩ := pe
        simp only at hok hen HF2 ⊢
        have c0 := HM.out.2.cell 0
        have c1 := HM.out.2.cell 1
        simp only [List.getElem?_toArray, List.getElem?_cons_succ, List.getElem?_cons_zero] at c0 c1
        have d0 : ∀ o : Obj, (w2.alloc o).cell? ⟨w.heap.size, 0, none⟩ = some (.string n) := fun o => (HM.out.2.alloc o).cell 0
        have d1 : ∀ o : Obj, (w2.alloc o).cell? ⟨w.heap.size, 1, none⟩ = some (.int .i64 t) := fun o => (HM.out.2.alloc o).cell 1
        have HW : Hid (SWp w (w2.alloc (.cells #[.string pn, .int .i64 pt] 63)) gs most b r L (fltL n t now left L) (nextL left ⟨pn, pt, pl, pds, pr, pu⟩) cnt2 ∧ Blk (w2.alloc (.cells #[.string pn, .int .i64 pt] 63)) w.heap.size #[.string n, .int .i64 t] 63) := ⟨HM.out.1.below (lay (Below.refl _ _) _), HM.out.2.below (lay (Below.refl _ _) _)⟩
        have e1 : (w2.alloc (.cells #[.string pn, .int .i64 pt] 63)).cell? ⟨gs, 1, none⟩ = some (.map (some b)) := HW.out.1.blk.cell 1
        obtain ⟨k3, D3, hr3, hm3⟩ := (HW.out.1.below (Below.refl _ _).drew).rg
        cases hsame : sameK n t ⟨pn, pt, pl, pds, pr, pu⟩ with
        | true =>
          have hke := key_eq pn n pt t true (by have := sameK_iff.1 hsame; simp at this ⊢; exact this)
          have hkk : keepB n t now ⟨pn, pt, pl, pds, pr, pu⟩ = false := by unfold keepB; rw [hsame]; rfl
          go_wp2
          go_region_law ((refine step_del_e _ (by rfl) (.tmp 30) (.tmp 31) (by rfl) b r k3 cnt2 D3 _ pn pt (by rfl) (by rfl) hr3 (max_ok hok) (wf_ok hok) ?_; intro w4 cnt4 hr4 hle4 ht4))
          all_goals (have HN := sw_struck (HW.out.1.below (Below.refl _ _).drew) (hg.sub List.filter_sublist) hok hm3 (HF2.out hkk) hr4 ht4; have HBX := (Turn.of_grown (S := fun k => k = b) ht4.grown (fun k e => (Option.some.inj e).symm)).blk (HW.out.2.below (Below.refl _ _).drew) (fun e => by have := HN.oldb; omega); go_wp2; exact ⟨⟨_, _, HN, HBX⟩, by rw [hr4.left_eq, HLT.out _ rfl]; omega⟩)
        | false =>
          have hke := key_eq pn n pt t false (by cases hq : (decide (pn = n) && decide (pt = t)) with | false => rfl | true => (rw [show sameK n t ⟨pn, pt, pl, pds, pr, pu⟩ = true from hq] at hsame; cases hsame))
          cases hlv : decide (now < pu) with
          | true =>
            have hkk : keepB n t now ⟨pn, pt, pl, pds, pr, pu⟩ = true := by unfold keepB; rw [hsame]; simpa using hlv
            have hil := fun u => isLive_any pu now u
            rw [hlv] at hil
            go_wp2_with (go_at_call 40; go_must (refine (hil _).mono ?_); rintro e w3 ⟨rfl, hw3⟩; obtain rfl := hw3.symm)
            have HN := HW.out.1
            rw [← HF1.out hkk] at HN
            have HBX := HW.out.2
            obtain ⟨k5, D5, hr5, _⟩ := HN.rg
            go_roundw
            case rel => exact ⟨_, _, HN, HBX⟩
            case measure => rw [hr5.left_eq, HLT.out _ rfl]; omega
          | false =>
            have hkk : keepB n t now ⟨pn, pt, pl, pds, pr, pu⟩ = false := by unfold keepB; rw [hsame]; simpa using hlv
            have hil := fun u => isLive_any pu now u
            rw [hlv] at hil
            go_wp2_with (go_at_call 40; go_must (refine (hil _).mono ?_); rintro e w3 ⟨rfl, hw3⟩; obtain rfl := hw3.symm)
            go_region_law ((refine step_del_e _ (by rfl) (.tmp 30) (.tmp 31) (by rfl) b r k3 cnt2 D3 _ pn pt (by rfl) (by rfl) hr3 (max_ok hok) (wf_ok hok) ?_; intro w4 cnt4 hr4 hle4 ht4))
            all_goals (have HN := sw_struck (HW.out.1.below (Below.refl _ _).drew) (hg.sub List.filter_sublist) hok hm3 (HF2.out hkk) hr4 ht4; have HBX := (Turn.of_grown (S := fun k => k = b) ht4.grown (fun k e => (Option.some.inj e).symm)).blk (HW.out.2.below (Below.refl _ _).drew) (fun e => by have := HN.oldb; omega); go_wp2; exact ⟨⟨_, _, HN, HBX⟩, by rw [hr4.left_eq, HLT.out _ rfl]; omega⟩)

end Ng
end Go.Proofs.Ytphhljbeaklikaa

/- What dropOne of a Negs does: the least goes. -/
namespace Go.Proofs.Ytphhljbeaklikaa
open Go.RowKit
open Pl
namespace Ng

/-- The least of those that have come. -/
def Least (L : List En) (left : Lit → Bool) (ln : ByteArray) (lt : Int) : Prop :=
  (ln = ⟨#[]⟩ ∧ lt = 0 ∧ ∀ p ∈ L, left (kyL p.n p.t) = true) ∨
  ∃ q ∈ L, q.n = ln ∧ q.t = lt ∧ left (kyL q.n q.t) = false ∧ ∀ p ∈ L, left (kyL p.n p.t) = false → sameK q.n q.t p = false → ltE q p = true
theorem least_start {D : DataW Int} {L : List En} (hm : MapOf D L) (hg : Good L) : Least L (Maps.has D) ⟨#[]⟩ 0 :=
  .inl ⟨rfl, rfl, fun p hp => by rw [mapOf_has hm hg (max_ok (hg.ok p hp).k) (wf_ok (hg.ok p hp).k)]; exact List.any_eq_true.2 ⟨p, hp, sameK_iff.2 ⟨rfl, rfl⟩⟩⟩
theorem least_first {L : List En} (hg : Good L) {left : Lit → Bool} (h : ∀ p ∈ L, left (kyL p.n p.t) = true) {p : En} (hp : p ∈ L) : Least L (nextL left p) p.n p.t := by
  refine .inr ⟨p, hp, rfl, rfl, ?_, fun q hq hl hs => ?_⟩
  · rw [nextL_at hg hp hp, sameK_iff.2 ⟨rfl, rfl⟩]; simp
  · rw [nextL_at hg hp hq, h q hq, hs] at hl; simp at hl
theorem least_take {L : List En} (hg : Good L) {left : Lit → Bool} {q p : En} (hq : q ∈ L) (h : ∀ p ∈ L, left (kyL p.n p.t) = false → sameK q.n q.t p = false → ltE q p = true) (hp : p ∈ L) (hlt : ltE p q = true) : Least L (nextL left p) p.n p.t := by
  refine .inr ⟨p, hp, rfl, rfl, ?_, fun x hx hl hs => ?_⟩
  · rw [nextL_at hg hp hp, sameK_iff.2 ⟨rfl, rfl⟩]; simp
  · rw [nextL_at hg hp hx, hs] at hl
    simp at hl
    cases hs2 : sameK q.n q.t x with
    | true => rw [← hg.one hq hx hs2]; exact hlt
    | false => exact ltE_trans hlt (h x hx hl hs2)
theorem least_stay {L : List En} (hg : Good L) {left : Lit → Bool} {q p : En} (hq : q ∈ L) (hql : left (kyL q.n q.t) = false) (h : ∀ p ∈ L, left (kyL p.n p.t) = false → sameK q.n q.t p = false → ltE q p = true) (hp : p ∈ L) (hlt : ltE p q = false) : Least L (nextL left p) q.n q.t := by
  refine .inr ⟨q, hq, rfl, rfl, ?_, fun x hx hl hs => ?_⟩
  · rw [nextL_at hg hp hq, hql]; rfl
  · rw [nextL_at hg hp hx] at hl
    cases hl2 : left (kyL x.n x.t) with
    | false => exact h x hx hl2 hs
    | true =>
      rw [hl2] at hl
      simp at hl
      obtain rfl := hg.one hp hx hl
      exact ltE_total (hg.ok p hp) (hg.ok q hq) hlt (sameK_symm hs)
/-- In the end the least of all goes. -/
theorem least_end {L : List En} (hg : Good L) {left : Lit → Bool} (hl : ∀ kl, left kl = false) {ln : ByteArray} {lt : Int} (h : Least L left ln lt) (h0 : 0 < L.length) : OkK ln lt ∧ L.filter (fun y => !sameK ln lt y) = L.eraseIdx (minP L) := by
  rcases h with ⟨_, _, h⟩ | ⟨q, hq, rfl, rfl, _, h⟩
  · have := h L[0] (List.getElem_mem _)
    rw [hl] at this; cases this
  · obtain ⟨i, hi, rfl⟩ := List.getElem_of_mem hq
    refine ⟨(hg.ok _ hq).k, ?_⟩
    rw [erase_filter hg.dis hi]
    congr 1
    exact minP_eq hg.dis hg.ok hi (fun j hj hne => h L[j] (List.getElem_mem _) (hl _) (hg.dis.at hi hj (fun e => hne e.symm)))
theorem atL_empty {L : List En} (hg : Good L) : atL L ⟨#[]⟩ 0 = none := by
  cases h : atL L ⟨#[]⟩ 0 with
  | none => rfl
  | some p =>
    obtain ⟨h1, h2, _⟩ := atL_some h
    have h4 := (hg.ok p h1).k.nm
    rw [h2] at h4
    exact absurd h4 (by decide)
/-- The box of the least is written. -/
theorem SWp.own {w0 w w' : World} {gs most b r : Nat} {L M : List En} {left : Lit → Bool} {cnt g : Nat} (h : SWp w0 w gs most b r L M left cnt) (ht : Turn (fun k => k = g) w w') (hg : w0.heap.size ≤ g) (hr : g ≠ r) : SWp w0 w' gs most b r L M left cnt := by
  obtain ⟨k, D, hrg, hm⟩ := h.rg
  have hgr : w.grownBy w' (some g) := ⟨ht.os, ht.tape, ht.output, ht.size, fun k hk hne => ht.block k hk (fun e => hne (by rw [e]))⟩
  have := h.oldb
  have := h.oldg
  exact ⟨⟨k, D, hrg.kept hgr (fun e => by have := Option.some.inj e; omega) (fun e => by have := Option.some.inj e; omega), hm⟩, h.good, ht.blk h.blk (by omega), h.turn.trans ht (fun i hi => .inr (by omega)), h.oldb, h.oldg, h.new⟩
theorem SWp.look {w0 w : World} {gs most b r : Nat} {L : List En} {left : Lit → Bool} {cnt : Nat} (h : SWp w0 w gs most b r L L left cnt) {n : ByteArray} {t : Int} (hn : n.size ≤ maxLen) (ht : (Lit.int .i64 t).wf = true) :
    (Instr.lookup 56 (.map (some b)) (.agg #[.string n, .int .i64 t]) true).run Try.prog w = .ok (.tuple #[vL L n t, .bool (bL L n t)]) w := by
  obtain ⟨k, D, hr, hm⟩ := h.rg
  have : MapAt w (some b) L := .inr ⟨b, rfl, ⟨k, D, hr.owns, hm⟩, h.good⟩
  exact this.look hn ht

set_option maxRecDepth 20000 in
set_option maxHeartbeats 4000000 in
theorem dropOne_any {w : World} {gs most b : Nat} {L : List En} (h : St w gs most (some b) L) (h0 : 0 < L.length) :
    Calls Try.prog 27 #[.pointer (some ⟨gs, 0, none⟩)] w fun e w' => e = .returned (.tuple #[]) ∧ St w' gs most (some b) (L.eraseIdx (minP L)) ∧ Turn (fun k => k = b) w w' := by
  have hb1 : Below w.heap.size w (w.alloc (.cells #[.string ⟨#[]⟩, .int .i64 0] 63)) := lay (Below.refl _ _) _
  have hs1 := h.below hb1
  have c1 : (w.alloc (.cells #[.string ⟨#[]⟩, .int .i64 0] 63)).cell? ⟨gs, 1, none⟩ = some (.map (some b)) := hs1.blk.cell 1
  obtain ⟨hhold⟩ : Nonempty (Hold (w.alloc (.cells #[.string ⟨#[]⟩, .int .i64 0] 63)) b L) := by
    rcases hs1.at' with ⟨e, _⟩ | ⟨b', e, hh⟩
    · cases e
    · cases e; exact ⟨hh⟩
  obtain ⟨D, hown, hm⟩ := hhold.own
  have hg := hhold.good
  have h1 := h.m1
  have h2 := h.m2
  have h3 := h.len
  have HST : Hid (∀ w', w'.ranges Try.prog 63 rE b (w.alloc (.cells #[.string ⟨#[]⟩, .int .i64 0] 63)).heap.size L.length D (Maps.has D) (Maps.size D) → (w.alloc (.cells #[.string ⟨#[]⟩, .int .i64 0] 63)).grownBy w' none → SWp w w' gs most b (w.alloc (.cells #[.string ⟨#[]⟩, .int .i64 0] 63)).heap.size L L (Maps.has D) (Maps.size D) ∧ Blk w' w.heap.size #[.string ⟨#[]⟩, .int .i64 0] 63 ∧ Least L (Maps.has D) ⟨#[]⟩ 0) := fun w' hr hgr => ⟨sw_start h hb1 hm hr hgr, (Blk.new w _ _).below (grown_below hgr), least_start hm hg⟩
  clear h hs1 hb1 hhold
  go_enter Try.func27, Try.ntmps27
  go_wp2_with (first
    | (at_range; refine wpList_range_own _ rfl _ 56 rfl 63 3 keyE Try.underlying56 rE b L.length D rfl hown ?_; intro w1 hr1 hg1 hs1; have HS1 := HST.out w1 hr1 hg1; clear hr1 hg1 hs1 HST)
    | go_in)
  go_frame
  have hrw : w.heap.size < (w.alloc (.cells #[.string ⟨#[]⟩, .int .i64 0] 63)).heap.size := by simp
  generalize (w.alloc (.cells #[.string ⟨#[]⟩, .int .i64 0] 63)).heap.size = r at HS1 hrw ⊢
  have HS : Hid (SWp w w1 gs most b r L L (Maps.has D) (Maps.size D) ∧ Blk w1 w.heap.size #[.string ⟨#[]⟩, .int .i64 0] 63 ∧ Least L (Maps.has D) ⟨#[]⟩ 0) := HS1
  clear HS1 hown hm c1
  go_loopw [12] (fun _ wr => ∃ (left : Lit → Bool) (cnt : Nat) (ln : ByteArray) (lt : Int), Hid (SWp w wr gs most b r L L left cnt ∧ Blk wr w.heap.size #[.string ln, .int .i64 lt] 63 ∧ Least L left ln lt)) (fun _ wr => wr.rangeLeft b r)
  case atStart => exact ⟨_, _, _, _, HS⟩
  case round =>
    clear HS
    obtain ⟨left, cnt, ln, lt, HR⟩ := hrel
    obtain ⟨kk, D', hr', hm'⟩ := HR.out.1.rg
    go_wp2_with (first
      | (at_next; go_must (refine wpList_next_e _ rfl (.tmp 11) rfl b r kk cnt D' left L rfl hr' hm' hg ?_ ?_))
      | go_in)
    · intro _ hl0
      obtain ⟨hok, hfil⟩ := least_end hg hl0 HR.out.2.2 h0
      have HF : Hid (L.filter (fun y => !sameK ln lt y) = L.eraseIdx (minP L)) := hfil
      clear hfil
      have c1 : wr.cell? ⟨gs, 1, none⟩ = some (.map (some b)) := HR.out.1.blk.cell 1
      have d0 : wr.cell? ⟨w.heap.size, 0, none⟩ = some (.string ln) := HR.out.2.1.cell 0
      have d1 : wr.cell? ⟨w.heap.size, 1, none⟩ = some (.int .i64 lt) := HR.out.2.1.cell 1
      have hr9 := (hr'.kept (row := none) (w' := wr.drew) ⟨rfl, rfl, rfl, Nat.le_refl _, fun _ _ _ => rfl⟩ (by simp) (by simp))
      go_wp2
      go_region_law ((refine step_del_e _ (by rfl) (.tmp 48) (.tmp 49) (by rfl) b r kk cnt D' left ln lt (by rfl) (by rfl) hr9 (max_ok hok) (wf_ok hok) ?_; intro w4 cnt4 hr4 hle4 ht4))
      all_goals (have HQ := mapOf_del hm' hg (max_ok hok) (wf_ok hok); rw [HF.out] at HQ; have HN := (HR.out.1.below (Below.refl _ _).drew).struck hr4 HQ ht4; go_wp2; go_end0; exact ⟨rfl, HN.st (List.eraseIdx_sublist _ _) h1 h2 h3, HN.turn⟩)
    · intro pe w2 cnt2 hpL hlp hr2 hlt hg2 hsz2 hen
      have HK := HR.out
      have HM : Hid (SWp w w2 gs most b r L L (nextL left pe) cnt2 ∧ Blk w2 w.heap.size #[.string ln, .int .i64 lt] 63) := ⟨HK.1.moved hr2 hm' hg2, (Turn.of_grown (S := fun k => k = r) hg2 (fun k e => (Option.some.inj e).symm)).blk HK.2.1 (by omega)⟩
      have HLT : Hid (∀ c, wr.rangeLeft b r = c → c = cnt) := fun c hc => by rw [hr'.left_eq] at hc; exact hc.symm
      have hok := (hg.ok _ hpL).k
      have HLE : Hid (Least L left ln lt) := HK.2.2
      have HPL : Hid (pe ∈ L) := hpL
      clear HK hlp hr2 hg2 hsz2 hpL hr' hm' HR
      unfold kyV at hen ⊢
      obtain ⟨pn, pt, pl, pds, pr, pu⟩ := pe
      simp only at hok hen ⊢
      rcases HLE.out with ⟨rfl, rfl, hall⟩ | ⟨⟨qn, qt, ql, qds, qr, qu⟩, hqL, rfl, rfl, hql, hq⟩
      · have HTAKE : Hid (Least L (nextL left ⟨pn, pt, pl, pds, pr, pu⟩) pn pt) := least_first hg hall HPL.out
        have hlk : Hid (∀ u, SWp w u gs most b r L L (nextL left ⟨pn, pt, pl, pds, pr, pu⟩) cnt2 → (Instr.lookup 56 (.map (some b)) (.agg #[.string ⟨#[]⟩, .int .i64 0]) true).run Try.prog u = .ok (.tuple #[.int .i64 0, .bool false]) u) := fun u hu => by
          have := hu.look (n := ⟨#[]⟩) (t := 0) (by decide) (by decide)
          unfold vL bL at this
          rw [atL_empty hg] at this
          exact this
        clear hall HLE HPL
        go_wp2
        obtain ⟨W, hW⟩ : ∃ W, W = w2.alloc (.cells #[.string pn, .int .i64 pt] 63) := ⟨_, rfl⟩
        have hbW : Below w2.heap.size w2 W := by rw [hW]; exact lay (Below.refl _ _) _
        have kK : Blk W w2.heap.size #[.string pn, .int .i64 pt] 63 := by rw [hW]; exact Blk.new w2 _ _
        rw [← hW]
        clear hW
        have HS := HM.out.1.below hbW
        have kB := HM.out.2.below hbW
        have c1 : W.cell? ⟨gs, 1, none⟩ = some (.map (some b)) := HS.blk.cell 1
        have d0 : W.cell? ⟨w.heap.size, 0, none⟩ = some (.string ⟨#[]⟩) := kB.cell 0
        have d1 : W.cell? ⟨w.heap.size, 1, none⟩ = some (.int .i64 0) := kB.cell 1
        have l1 := hlk.out W.drew (HS.below (Below.refl _ _).drew)
        go_region
        obtain ⟨X, hX⟩ : ∃ X, X = W.drew := ⟨_, rfl⟩
        rw [← hX]
        have hbX : Below W.heap.size W X := by rw [hX]; exact (Below.refl _ _).drew
        clear hX c1 d0 d1 l1
        replace HS := HS.below hbX
        replace kB := kB.below hbX
        replace kK := kK.below hbX
        have k0 := kK.cell 0
        have k1 := kK.cell 1
        have b0 := kB.cell 0
        have b1 := kB.cell 1
        have g0 := kB.frozen 0
        have g1 := kB.frozen 1
        simp only [List.getElem?_toArray, List.getElem?_cons_succ, List.getElem?_cons_zero] at k0 k1 b0 b1
        go_wp2
        have t6 : Turn (fun k => k = w.heap.size) X ((X.setCell ⟨w.heap.size, 0, none⟩ (.string pn)).setCell ⟨w.heap.size, 1, none⟩ (.int .i64 pt)) := (Turn.of_set (S := fun k => k = w.heap.size) _ (p := ⟨w.heap.size, 0, none⟩) rfl _).same (Turn.of_set (S := fun k => k = w.heap.size) _ (p := ⟨w.heap.size, 1, none⟩) rfl _)
        have k6 : Blk ((X.setCell ⟨w.heap.size, 0, none⟩ (.string pn)).setCell ⟨w.heap.size, 1, none⟩ (.int .i64 pt)) w.heap.size #[.string pn, .int .i64 pt] 63 := (kB.set 0 _).set 1 _
        have HN := HS.own t6 (Nat.le_refl _) (by omega)
        have HL := HTAKE.out
        obtain ⟨k7, D7, hr7, _⟩ := HN.rg
        go_roundw
        case rel => exact ⟨_, _, _, _, ⟨HN, k6, HL⟩⟩
        case measure => rw [hr7.left_eq, HLT.out _ rfl]; omega
      · have hqk := (hg.ok _ hqL).k
        have HTAKE : Hid (ltE ⟨pn, pt, pl, pds, pr, pu⟩ ⟨qn, qt, ql, qds, qr, qu⟩ = true → Least L (nextL left ⟨pn, pt, pl, pds, pr, pu⟩) pn pt) := fun hx => least_take hg hqL hq HPL.out hx
        have HSTAY : Hid (ltE ⟨pn, pt, pl, pds, pr, pu⟩ ⟨qn, qt, ql, qds, qr, qu⟩ = false → Least L (nextL left ⟨pn, pt, pl, pds, pr, pu⟩) qn qt) := fun hx => least_stay hg hqL hql hq HPL.out hx
        have hlk : Hid (∀ u, SWp w u gs most b r L L (nextL left ⟨pn, pt, pl, pds, pr, pu⟩) cnt2 → (Instr.lookup 56 (.map (some b)) (.agg #[.string qn, .int .i64 qt]) true).run Try.prog u = .ok (.tuple #[.int .i64 qu, .bool true]) u) := fun u hu => by
          have := hu.look (n := qn) (t := qt) (max_ok hqk) (wf_ok hqk)
          unfold vL bL at this
          have ha := atL_mem hg hqL
          simp only at ha
          rw [ha] at this
          exact this
        simp only at hqk
        clear hq hql hqL HLE HPL
        by_cases hu1 : pu < qu
        · replace HTAKE := HTAKE.out (ltE_iff.2 (.inl hu1))
          replace HTAKE : Hid (Least L (nextL left ⟨pn, pt, pl, pds, pr, pu⟩) pn pt) := HTAKE
          go_wp2
          obtain ⟨W, hW⟩ : ∃ W, W = w2.alloc (.cells #[.string pn, .int .i64 pt] 63) := ⟨_, rfl⟩
          have hbW : Below w2.heap.size w2 W := by rw [hW]; exact lay (Below.refl _ _) _
          have kK : Blk W w2.heap.size #[.string pn, .int .i64 pt] 63 := by rw [hW]; exact Blk.new w2 _ _
          rw [← hW]
          clear hW
          have HS := HM.out.1.below hbW
          have kB := HM.out.2.below hbW
          have c1 : W.cell? ⟨gs, 1, none⟩ = some (.map (some b)) := HS.blk.cell 1
          have d0 : W.cell? ⟨w.heap.size, 0, none⟩ = some (.string qn) := kB.cell 0
          have d1 : W.cell? ⟨w.heap.size, 1, none⟩ = some (.int .i64 qt) := kB.cell 1
          have l1 := hlk.out W.drew (HS.below (Below.refl _ _).drew)
          go_region
          obtain ⟨X, hX⟩ : ∃ X, X = W.drew := ⟨_, rfl⟩
          rw [← hX]
          have hbX : Below W.heap.size W X := by rw [hX]; exact (Below.refl _ _).drew
          clear hX c1 d0 d1 l1
          replace HS := HS.below hbX
          replace kB := kB.below hbX
          replace kK := kK.below hbX
          have k0 := kK.cell 0
          have k1 := kK.cell 1
          have b0 := kB.cell 0
          have b1 := kB.cell 1
          have g0 := kB.frozen 0
          have g1 := kB.frozen 1
          simp only [List.getElem?_toArray, List.getElem?_cons_succ, List.getElem?_cons_zero] at k0 k1 b0 b1
          go_wp2
          have t6 : Turn (fun k => k = w.heap.size) X ((X.setCell ⟨w.heap.size, 0, none⟩ (.string pn)).setCell ⟨w.heap.size, 1, none⟩ (.int .i64 pt)) := (Turn.of_set (S := fun k => k = w.heap.size) _ (p := ⟨w.heap.size, 0, none⟩) rfl _).same (Turn.of_set (S := fun k => k = w.heap.size) _ (p := ⟨w.heap.size, 1, none⟩) rfl _)
          have k6 : Blk ((X.setCell ⟨w.heap.size, 0, none⟩ (.string pn)).setCell ⟨w.heap.size, 1, none⟩ (.int .i64 pt)) w.heap.size #[.string pn, .int .i64 pt] 63 := (kB.set 0 _).set 1 _
          have HN := HS.own t6 (Nat.le_refl _) (by omega)
          have HL := HTAKE.out
          obtain ⟨k7, D7, hr7, _⟩ := HN.rg
          go_roundw
          case rel => exact ⟨_, _, _, _, ⟨HN, k6, HL⟩⟩
          case measure => rw [hr7.left_eq, HLT.out _ rfl]; omega
        · have hu1' : decide (pu < qu) = false := by simpa using hu1
          by_cases hu2 : pu = qu
          · by_cases hu3 : cK pn pt qn qt < 0
            · replace HTAKE := HTAKE.out (ltE_iff.2 (.inr ⟨hu2, hu3⟩))
              replace HTAKE : Hid (Least L (nextL left ⟨pn, pt, pl, pds, pr, pu⟩) pn pt) := HTAKE
              have hu2' : (pu == qu) = true := by simpa using hu2
              clear hu2
              go_wp2
              obtain ⟨W, hW⟩ : ∃ W, W = w2.alloc (.cells #[.string pn, .int .i64 pt] 63) := ⟨_, rfl⟩
              have hbW : Below w2.heap.size w2 W := by rw [hW]; exact lay (Below.refl _ _) _
              have kK : Blk W w2.heap.size #[.string pn, .int .i64 pt] 63 := by rw [hW]; exact Blk.new w2 _ _
              rw [← hW]
              clear hW
              have HS := HM.out.1.below hbW
              have kB := HM.out.2.below hbW
              have c1 : W.cell? ⟨gs, 1, none⟩ = some (.map (some b)) := HS.blk.cell 1
              have d0 : W.cell? ⟨w.heap.size, 0, none⟩ = some (.string qn) := kB.cell 0
              have d1 : W.cell? ⟨w.heap.size, 1, none⟩ = some (.int .i64 qt) := kB.cell 1
              have l1 := hlk.out W.drew (HS.below (Below.refl _ _).drew)
              go_region
              obtain ⟨X, hX⟩ : ∃ X, X = W.drew := ⟨_, rfl⟩
              rw [← hX]
              have hbX : Below W.heap.size W X := by rw [hX]; exact (Below.refl _ _).drew
              clear hX c1 d0 d1 l1
              replace HS := HS.below hbX
              replace kB := kB.below hbX
              replace kK := kK.below hbX
              have k0 := kK.cell 0
              have k1 := kK.cell 1
              have b0 := kB.cell 0
              have b1 := kB.cell 1
              have g0 := kB.frozen 0
              have g1 := kB.frozen 1
              simp only [List.getElem?_toArray, List.getElem?_cons_succ, List.getElem?_cons_zero] at k0 k1 b0 b1
              go_wp2_with (go_at_call 34; go_must (refine (order_d pn qn pt qt _ (max_ok hok) (max_ok hqk)).mono ?_); rintro e X2 ⟨rfl, bX2, _⟩; replace HS := HS.below bX2; replace kB := kB.below bX2; replace kK := kK.below bX2; clear k0 k1 b0 b1 g0 g1; have k0 := kK.cell 0; have k1 := kK.cell 1; have b0 := kB.cell 0; have b1 := kB.cell 1; have g0 := kB.frozen 0; have g1 := kB.frozen 1; simp only [List.getElem?_toArray, List.getElem?_cons_succ, List.getElem?_cons_zero] at k0 k1 b0 b1)
              have t6 : Turn (fun k => k = w.heap.size) X2 ((X2.setCell ⟨w.heap.size, 0, none⟩ (.string pn)).setCell ⟨w.heap.size, 1, none⟩ (.int .i64 pt)) := (Turn.of_set (S := fun k => k = w.heap.size) _ (p := ⟨w.heap.size, 0, none⟩) rfl _).same (Turn.of_set (S := fun k => k = w.heap.size) _ (p := ⟨w.heap.size, 1, none⟩) rfl _)
              have k6 : Blk ((X2.setCell ⟨w.heap.size, 0, none⟩ (.string pn)).setCell ⟨w.heap.size, 1, none⟩ (.int .i64 pt)) w.heap.size #[.string pn, .int .i64 pt] 63 := (kB.set 0 _).set 1 _
              have HN := HS.own t6 (Nat.le_refl _) (by omega)
              have HL := HTAKE.out
              obtain ⟨k7, D7, hr7, _⟩ := HN.rg
              go_roundw
              case rel => exact ⟨_, _, _, _, ⟨HN, k6, HL⟩⟩
              case measure => rw [hr7.left_eq, HLT.out _ rfl]; omega
            · replace HSTAY := HSTAY.out (by cases hx : ltE ⟨pn, pt, pl, pds, pr, pu⟩ ⟨qn, qt, ql, qds, qr, qu⟩ with | false => rfl | true => (have := ltE_iff.1 hx; simp only at this; omega))
              replace HSTAY : Hid (Least L (nextL left ⟨pn, pt, pl, pds, pr, pu⟩) qn qt) := HSTAY
              have hu2' : (pu == qu) = true := by simpa using hu2
              have hu3' : decide (cK pn pt qn qt < 0) = false := by simpa using hu3
              clear hu2 hu3
              go_wp2
              obtain ⟨W, hW⟩ : ∃ W, W = w2.alloc (.cells #[.string pn, .int .i64 pt] 63) := ⟨_, rfl⟩
              have hbW : Below w2.heap.size w2 W := by rw [hW]; exact lay (Below.refl _ _) _
              have kK : Blk W w2.heap.size #[.string pn, .int .i64 pt] 63 := by rw [hW]; exact Blk.new w2 _ _
              rw [← hW]
              clear hW
              have HS := HM.out.1.below hbW
              have kB := HM.out.2.below hbW
              have c1 : W.cell? ⟨gs, 1, none⟩ = some (.map (some b)) := HS.blk.cell 1
              have d0 : W.cell? ⟨w.heap.size, 0, none⟩ = some (.string qn) := kB.cell 0
              have d1 : W.cell? ⟨w.heap.size, 1, none⟩ = some (.int .i64 qt) := kB.cell 1
              have l1 := hlk.out W.drew (HS.below (Below.refl _ _).drew)
              go_region
              obtain ⟨X, hX⟩ : ∃ X, X = W.drew := ⟨_, rfl⟩
              rw [← hX]
              have hbX : Below W.heap.size W X := by rw [hX]; exact (Below.refl _ _).drew
              clear hX c1 d0 d1 l1
              replace HS := HS.below hbX
              replace kB := kB.below hbX
              replace kK := kK.below hbX
              have k0 := kK.cell 0
              have k1 := kK.cell 1
              have b0 := kB.cell 0
              have b1 := kB.cell 1
              have g0 := kB.frozen 0
              have g1 := kB.frozen 1
              simp only [List.getElem?_toArray, List.getElem?_cons_succ, List.getElem?_cons_zero] at k0 k1 b0 b1
              go_wp2_with (go_at_call 34; go_must (refine (order_d pn qn pt qt _ (max_ok hok) (max_ok hqk)).mono ?_); rintro e X2 ⟨rfl, bX2, _⟩; replace HS := HS.below bX2; replace kB := kB.below bX2; replace kK := kK.below bX2; clear k0 k1 b0 b1 g0 g1; have k0 := kK.cell 0; have k1 := kK.cell 1; have b0 := kB.cell 0; have b1 := kB.cell 1; have g0 := kB.frozen 0; have g1 := kB.frozen 1; simp only [List.getElem?_toArray, List.getElem?_cons_succ, List.getElem?_cons_zero] at k0 k1 b0 b1)
              have HL := HSTAY.out
              obtain ⟨k7, D7, hr7, _⟩ := HS.rg
              go_roundw
              case rel => exact ⟨_, _, _, _, ⟨HS, kB, HL⟩⟩
              case measure => rw [hr7.left_eq, HLT.out _ rfl]; omega
          · replace HSTAY := HSTAY.out (by cases hx : ltE ⟨pn, pt, pl, pds, pr, pu⟩ ⟨qn, qt, ql, qds, qr, qu⟩ with | false => rfl | true => (have := ltE_iff.1 hx; simp only at this; omega))
            replace HSTAY : Hid (Least L (nextL left ⟨pn, pt, pl, pds, pr, pu⟩) qn qt) := HSTAY
            have hu2' : (pu == qu) = false := by simpa using hu2
            clear hu2
            go_wp2
            obtain ⟨W, hW⟩ : ∃ W, W = w2.alloc (.cells #[.string pn, .int .i64 pt] 63) := ⟨_, rfl⟩
            have hbW : Below w2.heap.size w2 W := by rw [hW]; exact lay (Below.refl _ _) _
            have kK : Blk W w2.heap.size #[.string pn, .int .i64 pt] 63 := by rw [hW]; exact Blk.new w2 _ _
            rw [← hW]
            clear hW
            have HS := HM.out.1.below hbW
            have kB := HM.out.2.below hbW
            have c1 : W.cell? ⟨gs, 1, none⟩ = some (.map (some b)) := HS.blk.cell 1
            have d0 : W.cell? ⟨w.heap.size, 0, none⟩ = some (.string qn) := kB.cell 0
            have d1 : W.cell? ⟨w.heap.size, 1, none⟩ = some (.int .i64 qt) := kB.cell 1
            have l1 := hlk.out W.drew (HS.below (Below.refl _ _).drew)
            go_region
            obtain ⟨X, hX⟩ : ∃ X, X = W.drew := ⟨_, rfl⟩
            rw [← hX]
            have hbX : Below W.heap.size W X := by rw [hX]; exact (Below.refl _ _).drew
            clear hX c1 d0 d1 l1
            replace HS := HS.below hbX
            replace kB := kB.below hbX
            replace kK := kK.below hbX
            have k0 := kK.cell 0
            have k1 := kK.cell 1
            have b0 := kB.cell 0
            have b1 := kB.cell 1
            have g0 := kB.frozen 0
            have g1 := kB.frozen 1
            simp only [List.getElem?_toArray, List.getElem?_cons_succ, List.getElem?_cons_zero] at k0 k1 b0 b1
            go_wp2
            have HL := HSTAY.out
            obtain ⟨k7, D7, hr7, _⟩ := HS.rg
            go_roundw
            case rel => exact ⟨_, _, _, _, ⟨HS, kB, HL⟩⟩
            case measure => rw [hr7.left_eq, HLT.out _ rfl]; omega

end Ng
end Go.Proofs.Ytphhljbeaklikaa
