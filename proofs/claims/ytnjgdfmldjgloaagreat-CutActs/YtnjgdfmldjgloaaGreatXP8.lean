/- What learn does to a cut. -/
import Derived.Test.YtnjgdfmldjgloaaGreatXP6
import Derived.Test.YtnjgdfmldjgloaaGreatXP7
import Derived.Maps.OwnSet
import Derived.Maps.OwnOps
import Derived.Maps.RangeWalk
import Derived.DeepKeys4
import Derived.Laws.StructEq
import Derived.Laws.IdiomRangeMap
import Derived.Deep.RegionLaw
namespace Go.Proofs.YtnjgdfmldjgloaaGreat
open Go.RowKit Go.Shelf
open Pl
namespace Cu
attribute [local go_sem] Oper.semAt_some

theorem srv_eq (h h' a a' : Int) (v : Bool) (hv : (decide (h = h') && decide (a = a')) = v) (u : World) : (binOp .eql 98 (.agg #[.int .i64 h, .int .i64 a]) (.agg #[.int .i64 h', .int .i64 a'])).run Tryz.prog u = .ok (.bool v) u := by
  have h1 := run_eql_struct (P := Tryz.prog) (w := u) 98 #[.int .i64 h, .int .i64 a] #[.int .i64 h', .int .i64 a']
  rw [h1]
  rw [show (10000 : Nat) = 9999 + 1 from rfl, run_equalIn_struct (P := Tryz.prog) u 9999 98 #[.int .i64 h, .int .i64 a] #[.int .i64 h', .int .i64 a'] (by kernel_rfl) (by kernel_rfl)]
  go_simp
  subst hv
  by_cases h2 : h = h'
  · subst h2
    by_cases h3 : a = a'
    · subst h3; simp
    · simp [h3]
  · simp [h2]
theorem blk_own {β : Type} (k : Nat) (C : Array Value) (t : TypeId) : Own (fun (_ : β) W => Blk W k C t) := fun s X Y row hs hg hrow => hs.grown hg (fun e => by
  obtain ⟨o, ho, hc⟩ := hrow k e.symm
  have h2 : X.heap[k]? = some (.cells C t (0, 0)) := hs
  rw [h2] at ho; cases ho; cases hc)
theorem Blk.putObj {W : World} {k l : Nat} {C : Array Value} {t : TypeId} (h : Blk W k C t) (o : Obj) (hne : k ≠ l) : Blk (W.putObj l o) k C t := by
  unfold Blk World.putObj
  simp only
  rw [Array.getElem?_setIfInBounds_ne (by omega)]
  exact h
/-- None of those that have come is the server's, and they are few. -/
def NP {H : Nat} (x : Bd) (pre : List (BdH H)) : Prop := (∀ z ∈ pre, sameS z.1 x = false) ∧ pre.length ≤ 15
def SP {H : Nat} (x : Bd) (pre : List (BdH H)) : Prop := pre.length = 16 ∨ ∃ z ∈ pre, sameS z.1 x = true
theorem sp_stop {H : Nat} {x : Bd} {now : Int} {zs q : List (BdH H)} {bs : List Bd} (hz : zs.map Subtype.val = bs) (hq : q <+: liveZ now zs) (h : SP x q) : stopB now bs x = true := by
  have hm := liveZ_map now zs
  rw [hz] at hm
  unfold stopB
  rw [← hm]
  rcases h with h | ⟨z, hzq, hs⟩
  · have := hq.length_le
    rw [decide_eq_true (by rw [List.length_map]; omega)]; rfl
  · rw [List.any_eq_true.2 ⟨z.1, List.mem_map.2 ⟨z, hq.subset hzq, rfl⟩, hs⟩, Bool.or_true]
theorem np_go {H : Nat} {x : Bd} {now : Int} {zs : List (BdH H)} {bs : List Bd} (hz : zs.map Subtype.val = bs) (h : NP x (liveZ now zs)) : stopB now bs x = false := by
  have hm := liveZ_map now zs
  rw [hz] at hm
  unfold stopB
  rw [← hm, decide_eq_false (by rw [List.length_map]; have := h.2; omega), Bool.false_or, List.any_eq_false]
  intro y hy
  obtain ⟨z, hz2, rfl⟩ := List.mem_map.1 hy
  rw [h.1 z hz2]; simp

set_option maxRecDepth 100000 in
set_option maxHeartbeats 2000000 in
theorem learn_any {w : World} {b : CB} {c : Ct} (h : CutAt w b c) (x : Bd) (now : Int) (hx : x.h < c.hs.length) (hn : c.bs.length < 256) :
    Calls Tryz.prog 55 #[.pointer (some ⟨b.g, 0, none⟩), .agg #[.int .i64 (x.h : Int), .int .i64 x.a, .int .i64 x.u], .int .i64 now] w fun e w' => e = .returned (.tuple #[]) ∧ ∃ b', CutAt w' b' { c with bs := learnB c.bs x now } ∧ b'.g = b.g ∧ b'.hv = b.hv ∧ Turn (wfoot b) w w' ∧ ∀ k, wfoot b' k → wfoot b k ∨ w.heap.size ≤ k := by
  have HOK2 : Hid (OkC { c with bs := c.bs ++ [x] }) := ⟨h.ok.nm, h.ok.fr, h.ok.hlen, h.ok.hnm, by show (c.bs ++ [x]).length ≤ 256; simp; omega, fun y hy => by
    rcases List.mem_append.1 hy with hy | hy
    · exact h.ok.at' y hy
    · simp at hy; subst hy; exact hx⟩
  obtain ⟨zs, hzs⟩ : ∃ zs : List (BdH c.hs.length), zs.map Subtype.val = c.bs := ⟨_, zsOf_map c.bs h.ok.at'⟩
  have hlt : ∀ k, foot b k → k < w.heap.size := h.raw.lt
  have HCUT : Hid (CutAt w b c) := h
  have HADD : Hid (∀ U, Below w.heap.size w U → Calls Tryz.prog 79 #[.pointer (some ⟨b.g, 3, none⟩), .agg #[.int .i64 (x.h : Int), .int .i64 x.a, .int .i64 x.u]] U fun e w' => e = .returned (.tuple #[]) ∧ ∃ b', RawAt w' b' { c with bs := c.bs ++ [x] } (lvls ((c.bs ++ [x]).map Bd.u)) ∧ b'.g = b.g ∧ b'.hv = b.hv ∧ Turn (wfoot b) U w' ∧ ∀ k, wfoot b' k → wfoot b k ∨ U.heap.size ≤ k) := fun U hU => add_any (h.below hU) x hn
  obtain ⟨xh, xa, xu⟩ := x
  simp only at hx HADD HOK2 ⊢
  refine (callsIn_wide (n := 5)).1 ?_
  refine callsIn_of_wp_marks Tryz.func55 rfl trivial ?_ rfl
  simp only [Tryz.ntmps55, List.size_toArray, List.length_cons, List.length_nil, Nat.reduceAdd, Nat.reduceSub, Array.replicate_succ, Array.replicate_zero, List.push_toArray, List.append_toArray, List.nil_append, List.cons_append]
  gi_wp2_with (refine ⟨trivial, ?_⟩; gi_at_call 78; go_must (refine (live_in _ _ _ _).mono ?_); rintro e w' ⟨rfl, rfl⟩)
  obtain ⟨w4, hw4⟩ : ∃ w4, w4 = (((w.alloc (.cells #[.int .i64 (xh : Int), .int .i64 xa, .int .i64 xu] 100)).alloc (.cells #[.int .i64 0] 3)).alloc (.cells #[.pointer (some ⟨b.g, 3, none⟩)] 131)).alloc (.cells #[.int .i64 now] 3) := ⟨_, rfl⟩
  have hz4 : w4.heap.size = w.heap.size + 4 := by rw [hw4]; simp
  have hb4 : Below w.heap.size w w4 := by rw [hw4]; exact lay (lay (lay (lay (Below.refl _ _) _) _) _) _
  have x0 : Blk w4 w.heap.size #[.int .i64 (xh : Int), .int .i64 xa, .int .i64 xu] 100 := by rw [hw4]; exact (((Blk.new w _ _).alloc _).alloc _).alloc _
  have x1 : Boxed w4 (w.heap.size + 1) 3 (.int .i64 0) := by
    have := ((Boxed.new (w.alloc (.cells #[.int .i64 (xh : Int), .int .i64 xa, .int .i64 xu] 100)) 3 (.int .i64 0)).alloc (.cells #[.pointer (some ⟨b.g, 3, none⟩)] 131)).alloc (.cells #[.int .i64 now] 3)
    rw [World.size_alloc] at this
    rw [hw4]; exact this
  have x2 : w4.cell? ⟨w.heap.size + 2, 0, none⟩ = some (.pointer (some ⟨b.g, 3, none⟩)) := by
    have := ((Boxed.new ((w.alloc (.cells #[.int .i64 (xh : Int), .int .i64 xa, .int .i64 xu] 100)).alloc (.cells #[.int .i64 0] 3)) 131 (.pointer (some ⟨b.g, 3, none⟩))).alloc (.cells #[.int .i64 now] 3)).cell
    rw [World.size_alloc, World.size_alloc] at this
    rw [hw4]; exact this
  have x3 : w4.cell? ⟨w.heap.size + 3, 0, none⟩ = some (.int .i64 now) := by
    have := (Boxed.new (((w.alloc (.cells #[.int .i64 (xh : Int), .int .i64 xa, .int .i64 xu] 100)).alloc (.cells #[.int .i64 0] 3)).alloc (.cells #[.pointer (some ⟨b.g, 3, none⟩)] 131)) 3 (.int .i64 now)).cell
    rw [World.size_alloc, World.size_alloc, World.size_alloc] at this
    rw [hw4]; exact this
  rw [← hw4]
  clear hw4
  refine wpIn_rangeFunc_ownH rfl (by omega) (gf := 93) (lb := #[.pointer (some ⟨w.heap.size + 1 + 1, 0, none⟩), .pointer (some ⟨w.heap.size + 1 + 1 + 1, 0, none⟩)]) rfl trivial (enters_of Tryz.func93 (by kernel_rfl) rfl)
    (live_stops 4 (Bo := w.heap.size + 1) (n₁ := w.heap.size + 4) zs now hzs (fun k hk => by have := hlt k hk; omega) (w.heap.size + 2) (w.heap.size + 3) w4 (by omega) (by omega) x2 x3 (h.below hb4)) (fun h k => h.trans k) (fun W l o o' hl _ _ _ => KpX.put W l o' (by omega)) (Below.refl _ _) (fun _ => rfl)
    (fun pre W => (Boxed W (w.heap.size + 1) 3 (.int .i64 (pre.length : Nat)) ∧ Blk W w.heap.size #[.int .i64 (xh : Int), .int .i64 xa, .int .i64 xu] 100) ∧ Below w.heap.size w W ∧ w.heap.size + 4 ≤ W.heap.size ∧ NP ⟨xh, xa, xu⟩ pre) (fun cd pre W => (Below w.heap.size w W) ∧ cd = .ret ∧ SP ⟨xh, xa, xu⟩ pre)
    (OwnFrom.and (OwnFrom.and (Own.from (boxed_own _ _ (fun pre : List (BdH c.hs.length) => Value.int .i64 (pre.length : Nat))) _) (Own.from (blk_own _ _ _) _)) (OwnFrom.and (ownFrom_below (Nat.le_refl _) (by omega)) (OwnFrom.and (fun _ _ _ _ hs hg _ => Nat.le_trans hs hg.size) (ownFrom_pure _ _))))
    (fun cd => OwnFrom.and (ownFrom_below (Nat.le_refl _) (by omega)) (ownFrom_pure _ _)) ⟨⟨x1, x0⟩, hb4, by omega, fun z hz => by simp at hz, by simp⟩
    (fun x a' W => ∃ Bx, w.heap.size + 4 ≤ Bx ∧ Blk W Bx #[.int .i64 (x.1.h : Int), .int .i64 x.1.a, .int .i64 x.1.u] 100 ∧ a' = { tmps := #[.pointer (some ⟨b.g, 0, none⟩), .agg #[.int .i64 (xh : Int), .int .i64 xa, .int .i64 xu], .int .i64 now, undef, .pointer (some ⟨w.heap.size, 0, none⟩), undef, .pointer (some ⟨w.heap.size + 1, 0, none⟩), .pointer (some ⟨Bx, 0, none⟩), .pointer (some ⟨b.g, 0, none⟩), .pointer (some ⟨b.g, 0, none⟩), .pointer (some ⟨b.g, 3, none⟩), .int .i64 now, .func (.func 93) #[] #[.pointer (some ⟨w.heap.size + 1 + 1, 0, none⟩), .pointer (some ⟨w.heap.size + 1 + 1 + 1, 0, none⟩)], .agg #[.int .i64 (x.1.h : Int), .int .i64 x.1.a, .int .i64 x.1.u], undef, undef, undef, undef, undef, undef, undef, undef, undef, undef, undef, undef, undef, undef, undef, undef], defers := [] })
    (fun x a' _ X Y row => ?_) ?_ ?_ ?_ ?_
  · rintro ⟨Bx, h1, h2, h3⟩ hg hrow
    exact ⟨Bx, h1, blk_own Bx _ _ () X Y row h2 hg (fun r e => (hrow r e).2), h3⟩
  · rintro l pre x W K ⟨⟨hv, hk⟩, hB, hW, hp⟩ hK
    unfold encB
    gi_wp2
    exact hK _ _ ((KeepsOthers.alloc _ _).from _) (KpX.of_below ((Below.refl _ W).alloc (by omega) _)) ⟨⟨hv.alloc _, hk.alloc _⟩, lay hB _, by simp; omega, hp⟩ ⟨W.heap.size, hW, Blk.new W _ _, rfl⟩
  · rintro l pre x a' W hl ⟨r, hr⟩ ⟨⟨hv, hk⟩, hB, hW, hp⟩ ⟨Bx, hBx, bX, rfl⟩ hlt
    obtain ⟨N, hN⟩ : ∃ N, N = pre.length := ⟨_, rfl⟩
    have hN15 : N ≤ 15 := by rw [hN]; exact hp.2
    rw [← hN] at hv
    have HNP : Hid (NP ⟨xh, xa, xu⟩ pre) := hp
    have HN : Hid (N = pre.length) := hN
    clear hN hp
    have v1 : Boxed (W.setCell ⟨w.heap.size + 1, 0, none⟩ (.int .i64 ((N : Int) + 1))) (w.heap.size + 1) 3 (.int .i64 ((N : Int) + 1)) := hv.set _
    have k1 := hk.other (b := w.heap.size + 1) (by omega) 0 (.int .i64 ((N : Int) + 1))
    have b1 := bX.other (b := w.heap.size + 1) (by omega) 0 (.int .i64 ((N : Int) + 1))
    have hc := hv.cell
    have hf := hv.frozen
    have hc1 := v1.cell
    have y0 := k1.cell 0
    have y1 := k1.cell 1
    have z0 := b1.cell 0
    have z1 := b1.cell 1
    simp only [List.getElem?_toArray, List.getElem?_cons_succ, List.getElem?_cons_zero] at y0 y1 z0 z1
    have HT : Hid (Turn (fun k => k = w.heap.size + 1) W (W.setCell ⟨w.heap.size + 1, 0, none⟩ (.int .i64 ((N : Int) + 1)))) := Turn.of_set (S := fun k => k = w.heap.size + 1) W (p := ⟨w.heap.size + 1, 0, none⟩) rfl _
    have HB1 : Hid (Below w.heap.size w (W.setCell ⟨w.heap.size + 1, 0, none⟩ (.int .i64 ((N : Int) + 1)))) := hB.setCell (p := ⟨w.heap.size + 1, 0, none⟩) (by show w.heap.size ≤ w.heap.size + 1; omega) _
    have HV1 : Hid (Boxed (W.setCell ⟨w.heap.size + 1, 0, none⟩ (.int .i64 ((N : Int) + 1))) (w.heap.size + 1) 3 (.int .i64 ((N : Int) + 1))) := v1
    have HK1 : Hid _ := k1
    have HZ : Hid (∀ z : BdH c.hs.length, z = x → sameS z.1 ⟨xh, xa, xu⟩ = (decide ((x.1.h : Int) = (xh : Int)) && decide (x.1.a = xa))) := fun z hz => by
      subst hz
      unfold sameS
      congr 1
      rw [Bool.eq_iff_iff, decide_eq_true_eq, decide_eq_true_eq]
      show z.1.h = xh ↔ (z.1.h : Int) = (xh : Int)
      omega
    obtain ⟨sv, hsv⟩ : ∃ sv, (decide ((x.1.h : Int) = (xh : Int)) && decide (x.1.a = xa)) = sv := ⟨_, rfl⟩
    have hse := fun u => srv_eq (x.1.h : Int) (xh : Int) x.1.a xa sv hsv u
    rw [hsv] at HZ
    clear hsv v1 k1 b1
    cases sv with
    | true =>
      gi_wp2
      exact ⟨(KeepsOthers.setCell _ _ _).from _, HB1.out, rfl, .inr ⟨x, List.mem_append.2 (.inr (by simp)), HZ.out x rfl⟩⟩
    | false =>
      by_cases h15 : N = 15
      · have h16 : ((N : Int) + 1 == 16) = true := by rw [h15]; rfl
        have HL : Hid ((pre ++ [x]).length = 16) := by unfold Hid; rw [List.length_append, ← HN.out, h15]; rfl
        clear h15
        gi_wp2
        exact ⟨(KeepsOthers.setCell _ _ _).from _, HB1.out, rfl, .inl HL.out⟩
      · have h16 : ((N : Int) + 1 == 16) = false := by rw [beq_eq_false_iff_ne]; omega
        gi_wp2
        refine ⟨(KeepsOthers.setCell _ _ _).from _, KpX.of_turn HT.out hW (fun k e => .inl e), ⟨?_, HK1.out⟩, HB1.out, by have := HT.out.size; omega, ?_, ?_⟩
        · have : (((pre ++ [x]).length : Nat) : Int) = (N : Int) + 1 := by rw [List.length_append, ← HN.out]; rfl
          rw [this]; exact HV1.out
        · intro z hz
          rcases List.mem_append.1 hz with hz | hz
          · exact HNP.out.1 z hz
          · simp at hz
            exact HZ.out z hz
        · rw [List.length_append, ← HN.out]; simp; omega
  · rintro D xs W hD rfl ⟨⟨hv, hk⟩, hB, hW, hp⟩ hK
    have HST : Hid (learnB c.bs ⟨xh, xa, xu⟩ now = c.bs ++ [⟨xh, xa, xu⟩]) := by unfold Hid learnB; rw [np_go hzs hp]; rfl
    have kd : Blk W.drew w.heap.size #[.int .i64 (xh : Int), .int .i64 xa, .int .i64 xu] 100 := hk
    have y0 := kd.cell 0
    have y1 := kd.cell 1
    have y2 := kd.cell 2
    simp only [List.getElem?_toArray, List.getElem?_cons_succ, List.getElem?_cons_zero] at y0 y1 y2
    have hadd := HADD.out W.drew hB.drew
    have HKD : Hid (W.drew.heap[D]? = some (.deferred (some []))) := hK
    have HBD : Hid (Below w.heap.size w W.drew) := hB.drew
    clear hK hB hk hp hv
    gi_wp2
    refine wpIn_noPanic ?_
    gi_region_with (refine ⟨trivial, ?_⟩; gi_at_call 79; refine (callsIn_wide.2 hadd).mono ?_; rintro e W5 ⟨rfl, b5, r5, g5, v5, t5, n5⟩)
    unfold noPanic
    gi_wp2
    have hK5 : W5.heap[D]? = some (.deferred (some [])) := by
      rw [t5.block D (Array.getElem?_eq_some_iff.1 HKD.out).1 (fun e => by have := hlt D (.inl e); omega)]
      exact HKD.out
    refine ⟨by simp, .inl ⟨_, _, rfl, run_takeDeferred hK5, ?_⟩⟩
    have hnf : ∀ k, foot b5 k → k ≠ D := by
      intro k hk e
      subst e
      have hD5 : W5.heap[k]? = some (.deferred (some [])) := hK5
      rcases hk with (e | e | e | ⟨v, hv, e⟩) | e
      · have := r5.blk; rw [← e] at this; unfold Blk at this; rw [this] at hD5; cases hD5
      · obtain ⟨cur, hc⟩ := own_cells r5.held e; unfold Blk at hc; rw [hc] at hD5; cases hD5
      · obtain ⟨cur, hc⟩ := own_cells r5.til e; unfold Blk at hc; rw [hc] at hD5; cases hD5
      · obtain ⟨us, ho⟩ := r5.lv.mem hv
        obtain ⟨cur, hc⟩ := own_cells ho e; unfold Blk at hc; rw [hc] at hD5; cases hD5
      · obtain ⟨cur, hc⟩ := own_cells r5.hosts e; unfold Blk at hc; rw [hc] at hD5; cases hD5
    have hDw : w.heap.size ≤ D := by omega
    refine ⟨_, results_none rfl _ _ _, rfl, b5, ⟨?_, ?_⟩, g5, v5, ?_, ?_⟩
    · rw [HST.out]
      refine r5.same (fun k hk => ?_)
      unfold World.putObj
      simp only
      rw [Array.getElem?_setIfInBounds_ne (fun e => hnf k hk e.symm)]
    · rw [HST.out]; exact HOK2.out
    · refine ((Turn.of_below HBD.out).trans t5 (fun i e => .inl e)).trans (S' := fun k => k = D) ⟨rfl, rfl, rfl, by simp [World.putObj], fun k _ hne => ?_⟩ (fun i e => .inr (by omega))
      unfold World.putObj
      simp only
      rw [Array.getElem?_setIfInBounds_ne (fun e => hne e.symm)]
    · intro k hk
      rcases n5 k hk with e | e
      · exact .inl e
      · exact .inr (Nat.le_trans HBD.out.size e)
  · rintro D cd pre W hD hq ⟨hB, rfl, hsp⟩ hK
    have HST : Hid (learnB c.bs ⟨xh, xa, xu⟩ now = c.bs) := by unfold Hid learnB; rw [sp_stop hzs hq hsp]; rfl
    gi_wp2
    refine ⟨by simp, .inl ⟨_, _, rfl, run_takeDeferred hK, ?_⟩⟩
    have hbw := hB.trans (belowK_b (w := w) (Nat.le_refl _) W D _ (.deferred none) (by omega) hK rfl rfl)
    refine ⟨_, results_none rfl _ _ _, rfl, b, ?_, rfl, rfl, Turn.of_below hbw, fun k hk => .inl hk⟩
    rw [HST.out]
    exact HCUT.out.below hbw

end Cu
end Go.Proofs.YtnjgdfmldjgloaaGreat

/- What bindings of a cut tells. -/
namespace Go.Proofs.YtnjgdfmldjgloaaGreat
open Go.RowKit Go.Shelf
open Pl
namespace Cu
attribute [local go_sem] Oper.semAt_some

/-- A binding as it is told. -/
structure Bn where
  c : ByteArray
  h : ByteArray
  a : Int
  f : ByteArray
  u : Int
def bV (x : Bn) : List Value := [.string x.c, .string x.h, .int .i64 x.a, .string x.f, .int .i64 x.u]
def bC (bs : List Bn) : List Value := bs.flatMap bV
theorem bC_len (bs : List Bn) : (bC bs).length = bs.length * 5 := flat_len (f := bV) (z := 5) (fun _ => rfl) bs
theorem bC_app (a b : List Bn) : bC (a ++ b) = bC a ++ bC b := by simp [bC]
theorem infoBn : (Tryz.prog.info? 65).map (fun i => (i.zero, i.size, i.bytes)) = some (some (.agg #[.string ⟨#[]⟩, .string ⟨#[]⟩, .int .i64 0, .string ⟨#[]⟩, .int .i64 0]), 5, 64) := by kernel_rfl
def tellZ (cn : ByteArray) (c : Ct) (z : BdH c.hs.length) : Bn := ⟨cn, c.hs[z.1.h]'z.2, z.1.a, c.fr, z.1.u⟩
def tellB (cn : ByteArray) (c : Ct) (x : Bd) : Bn := ⟨cn, c.hs.getD x.h ⟨#[]⟩, x.a, c.fr, x.u⟩
theorem tell_map (cn : ByteArray) (c : Ct) (zs : List (BdH c.hs.length)) : zs.map (tellZ cn c) = (zs.map Subtype.val).map (tellB cn c) := by
  rw [List.map_map]
  refine List.map_congr_left (fun z _ => ?_)
  unfold tellZ tellB
  simp only [Function.comp]
  rw [List.getD_eq_getElem?_getD, List.getElem?_eq_getElem z.2]; rfl
theorem tC_at' {ds : List ByteArray} {j : Nat} (hj : j < ds.length) : (tC ds)[j]? = some (.string ds[j]) := by unfold tC; rw [List.getElem?_map, List.getElem?_eq_getElem hj]; rfl

set_option maxRecDepth 100000 in
set_option maxHeartbeats 2000000 in
theorem bindings_any {w : World} {b : CB} {c : Ct} (h : CutAt w b c) (cn : ByteArray) (now : Int) :
    Calls Tryz.prog 62 #[.pointer (some ⟨b.g, 0, none⟩), .string cn, .int .i64 now] w fun e w' => ∃ v, e = .returned v ∧ w'.ownsRow w.heap.size 65 5 v (liveB now c.bs).length (bC ((liveB now c.bs).map (tellB cn c))) ∧ Below w.heap.size w w' := by
  obtain ⟨iB, hiB, hzB0, hzB1, hzB2⟩ := info_parts infoBn
  obtain ⟨zs, hzs⟩ : ∃ zs : List (BdH c.hs.length), zs.map Subtype.val = c.bs := ⟨_, zsOf_map c.bs h.ok.at'⟩
  have hlt : ∀ k, foot b k → k < w.heap.size := h.raw.lt
  have hlen256 : (liveZ now zs).length ≤ 256 := by
    have h1 : (liveZ now zs).length ≤ zs.length := List.length_filter_le _ _
    have h2 : zs.length = c.bs.length := by rw [← hzs, List.length_map]
    have := h.ok.len
    omega
  have HEND : Hid ((liveZ now zs).length = (liveB now c.bs).length ∧ (liveZ now zs).map (tellZ cn c) = (liveB now c.bs).map (tellB cn c)) := by
    have hm := liveZ_map now zs
    rw [hzs] at hm
    exact ⟨by rw [← hm, List.length_map], by rw [tell_map, hm]⟩
  refine (callsIn_wide (n := 5)).1 ?_
  refine callsIn_of_wp_marks Tryz.func62 rfl trivial ?_ rfl
  simp only [Tryz.ntmps62, List.size_toArray, List.length_cons, List.length_nil, Nat.reduceAdd, Nat.reduceSub, Array.replicate_succ, Array.replicate_zero, List.push_toArray, List.append_toArray, List.nil_append, List.cons_append]
  gi_wp2_with (refine ⟨trivial, ?_⟩; gi_at_call 78; go_must (refine (live_in _ _ _ _).mono ?_); rintro e w' ⟨rfl, rfl⟩)
  obtain ⟨w5, hw5⟩ : ∃ w5, w5 = ((((w.alloc (.cells #[.pointer (some ⟨b.g, 0, none⟩)] 80)).alloc (.cells #[.string cn] 9)).alloc (.cells #[.slice none 0 0] 37)).alloc (.cells #[.pointer (some ⟨b.g, 3, none⟩)] 131)).alloc (.cells #[.int .i64 now] 3) := ⟨_, rfl⟩
  have hz5 : w5.heap.size = w.heap.size + 5 := by rw [hw5]; simp
  have hb5 : Below w.heap.size w w5 := by rw [hw5]; exact lay (lay (lay (lay (lay (Below.refl _ _) _) _) _) _) _
  have x0 : w5.cell? ⟨w.heap.size, 0, none⟩ = some (.pointer (some ⟨b.g, 0, none⟩)) := by rw [hw5]; exact (((((Boxed.new w _ _).alloc _).alloc _).alloc _).alloc _).cell
  have x1 : w5.cell? ⟨w.heap.size + 1, 0, none⟩ = some (.string cn) := by
    have := ((((Boxed.new (w.alloc (.cells #[.pointer (some ⟨b.g, 0, none⟩)] 80)) 9 (.string cn)).alloc (.cells #[.slice none 0 0] 37)).alloc (.cells #[.pointer (some ⟨b.g, 3, none⟩)] 131)).alloc (.cells #[.int .i64 now] 3)).cell
    rw [World.size_alloc] at this
    rw [hw5]; exact this
  have x2 : Boxed w5 (w.heap.size + 2) 37 (.slice none 0 0) := by
    have := (((Boxed.new ((w.alloc (.cells #[.pointer (some ⟨b.g, 0, none⟩)] 80)).alloc (.cells #[.string cn] 9)) 37 (.slice none 0 0)).alloc (.cells #[.pointer (some ⟨b.g, 3, none⟩)] 131)).alloc (.cells #[.int .i64 now] 3))
    rw [World.size_alloc, World.size_alloc] at this
    rw [hw5]; exact this
  have x3 : w5.cell? ⟨w.heap.size + 3, 0, none⟩ = some (.pointer (some ⟨b.g, 3, none⟩)) := by
    have := ((Boxed.new (((w.alloc (.cells #[.pointer (some ⟨b.g, 0, none⟩)] 80)).alloc (.cells #[.string cn] 9)).alloc (.cells #[.slice none 0 0] 37)) 131 (.pointer (some ⟨b.g, 3, none⟩))).alloc (.cells #[.int .i64 now] 3)).cell
    rw [World.size_alloc, World.size_alloc, World.size_alloc] at this
    rw [hw5]; exact this
  have x4 : w5.cell? ⟨w.heap.size + 4, 0, none⟩ = some (.int .i64 now) := by
    have := (Boxed.new ((((w.alloc (.cells #[.pointer (some ⟨b.g, 0, none⟩)] 80)).alloc (.cells #[.string cn] 9)).alloc (.cells #[.slice none 0 0] 37)).alloc (.cells #[.pointer (some ⟨b.g, 3, none⟩)] 131)) 3 (.int .i64 now)).cell
    rw [World.size_alloc, World.size_alloc, World.size_alloc, World.size_alloc] at this
    rw [hw5]; exact this
  rw [← hw5]
  clear hw5
  -- what is read of the cut in the loop
  have HRD : Hid (∀ (z : BdH c.hs.length) U, KpX (w.heap.size + 2) (w.heap.size + 5) w5 U → ∃ gh ch, b.hv = .slice (some ⟨gh, 0, none⟩) c.hs.length ch ∧ U.cell? ⟨w.heap.size, 0, none⟩ = some (.pointer (some ⟨b.g, 0, none⟩)) ∧ U.cell? ⟨w.heap.size + 1, 0, none⟩ = some (.string cn) ∧ U.cell? ⟨b.g, 0, none⟩ = some (.slice (some ⟨gh, 0, none⟩) c.hs.length ch) ∧ U.cell? ⟨b.g, 1, none⟩ = some (.string c.fr) ∧ U.cell? ⟨gh, z.1.h, none⟩ = some (.string (c.hs[z.1.h]'z.2))) := fun z U hU => by
    have h5 := h.below hb5
    obtain ⟨gh, ch, hhv, _, hghlt⟩ := h5.raw.hosts.form (by have := z.2; omega)
    have hcell : ∀ k a, foot b k → U.cell? ⟨k, a, none⟩ = w5.cell? ⟨k, a, none⟩ := fun k a hk => hU.cell (by have := hlt k hk; omega) (by have := hlt k hk; omega) a
    have e1 := hcell b.g 0 (.inl (.inl rfl))
    have e2 := hcell b.g 1 (.inl (.inl rfl))
    have e3 := hcell gh z.1.h (.inr (by rw [hhv]; rfl))
    have hho := h5.raw.hosts
    rw [hhv] at hho
    refine ⟨gh, ch, hhv, (hU.cell (by omega) (by omega) 0).trans x0, (hU.cell (by omega) (by omega) 0).trans x1, ?_, ?_, ?_⟩
    · rw [e1, h5.raw.blk.cell 0, ← hhv]; rfl
    · rw [e2, h5.raw.blk.cell 1]; rfl
    · have := (lies_own hho).1 z.1.h _ (tC_at' z.2)
      rw [e3]; simpa using this
  refine wpIn_rangeFunc_ownH rfl (by omega) (gf := 93) (lb := #[.pointer (some ⟨w.heap.size + 1 + 1 + 1, 0, none⟩), .pointer (some ⟨w.heap.size + 1 + 1 + 1 + 1, 0, none⟩)]) rfl trivial (enters_of Tryz.func93 (by kernel_rfl) rfl)
    (live_stops 4 (Bo := w.heap.size + 2) (n₁ := w.heap.size + 5) zs now hzs (fun k hk => by have := hlt k hk; omega) (w.heap.size + 3) (w.heap.size + 4) w5 (by omega) (by omega) x3 x4 (h.below hb5)) (fun h k => h.trans k) (fun W l o o' hl _ _ _ => KpX.put W l o' (by omega)) (Below.refl _ _) (fun _ => rfl)
    (fun pre W => (∃ v, Boxed W (w.heap.size + 2) 37 v ∧ W.ownsRow (w.heap.size + 5) 65 5 v pre.length (bC (pre.map (tellZ cn c))) ∧ True) ∧ Below w.heap.size w W ∧ (KpX (w.heap.size + 2) (w.heap.size + 5) w5 W ∧ w.heap.size + 5 ≤ W.heap.size)) (fun _ _ _ => False)
    (OwnFrom.and (Own.from (holdsRow_own (w.heap.size + 5) (w.heap.size + 2) 37 65 5 (fun pre : List (BdH c.hs.length) => pre.length) (fun pre => bC (pre.map (tellZ cn c))) (fun _ _ => True)) _) (OwnFrom.and (ownFrom_below (Nat.le_refl _) (by omega)) (fun _ A B row hs hg hr => ⟨fun k hk hne => (hg.block k (by have := hs.2; omega) (fun e => by have := (hr k e.symm).1; omega)).trans (hs.1 k hk hne), Nat.le_trans hs.2 hg.size⟩)))
    (fun _ _ _ _ _ h _ _ => h.elim) ⟨⟨_, x2, World.ownsRow_nil _ _ _ _, trivial⟩, hb5, KpX.refl _, by omega⟩
    (fun x a' W => ∃ Bx, w.heap.size + 5 ≤ Bx ∧ Blk W Bx #[.int .i64 (x.1.h : Int), .int .i64 x.1.a, .int .i64 x.1.u] 100 ∧ a' = { tmps := #[.pointer (some ⟨b.g, 0, none⟩), .string cn, .int .i64 now, .pointer (some ⟨w.heap.size, 0, none⟩), .pointer (some ⟨w.heap.size + 1, 0, none⟩), undef, .slice none 0 0, .pointer (some ⟨w.heap.size + 1 + 1, 0, none⟩), .pointer (some ⟨Bx, 0, none⟩), .pointer (some ⟨b.g, 0, none⟩), .pointer (some ⟨b.g, 0, none⟩), .pointer (some ⟨b.g, 3, none⟩), .int .i64 now, .func (.func 93) #[] #[.pointer (some ⟨w.heap.size + 1 + 1 + 1, 0, none⟩), .pointer (some ⟨w.heap.size + 1 + 1 + 1 + 1, 0, none⟩)], .agg #[.int .i64 (x.1.h : Int), .int .i64 x.1.a, .int .i64 x.1.u], undef, undef, undef, undef, undef, undef, undef, undef, undef, undef, undef, undef, undef, undef, undef, undef, undef, undef, undef, undef, undef, undef, undef, undef], defers := [] })
    (fun x a' _ X Y row => ?_) ?_ ?_ ?_ ?_
  · rintro ⟨Bx, h1, h2, h3⟩ hg hrow
    exact ⟨Bx, h1, blk_own Bx _ _ () X Y row h2 hg (fun r e => (hrow r e).2), h3⟩
  · rintro l pre x W K ⟨⟨v, hv, hrow, _⟩, hB, hKP, hW⟩ hK
    unfold encB
    gi_wp2
    exact hK _ _ ((KeepsOthers.alloc _ _).from _) (KpX.of_below ((Below.refl _ W).alloc (by omega) _)) ⟨⟨v, hv.alloc _, hrow.alloc _, trivial⟩, lay hB _, hKP.trans (KpX.of_below ((Below.refl _ W).alloc (by omega) _)), by simp; omega⟩ ⟨W.heap.size, hW, Blk.new W _ _, rfl⟩
  · rintro l pre x a' W hl ⟨r, hr⟩ ⟨⟨v, hv, hrow, _⟩, hB, hKP, hW⟩ ⟨Bx, hBx, bX, rfl⟩ hlt
    have HKP : Hid (KpX (w.heap.size + 2) (w.heap.size + 5) w5 W) := hKP
    have HBW : Hid (Below w.heap.size w W) := hB
    obtain ⟨gh, ch, hhv, _⟩ := HRD.out x W hKP
    have HCELLS : Hid (∀ U, KpX (w.heap.size + 2) (w.heap.size + 5) w5 U → U.cell? ⟨w.heap.size, 0, none⟩ = some (.pointer (some ⟨b.g, 0, none⟩)) ∧ U.cell? ⟨w.heap.size + 1, 0, none⟩ = some (.string cn) ∧ U.cell? ⟨b.g, 0, none⟩ = some (.slice (some ⟨gh, 0, none⟩) c.hs.length ch) ∧ U.cell? ⟨b.g, 1, none⟩ = some (.string c.fr) ∧ U.cell? ⟨gh, x.1.h, none⟩ = some (.string (c.hs[x.1.h]'x.2))) := fun U hU => by
      obtain ⟨gh', ch', e, q⟩ := HRD.out x U hU
      rw [hhv] at e
      simp only [Value.slice.injEq, Option.some.injEq, Addr.mk.injEq, and_true, true_and] at e
      obtain ⟨rfl, rfl⟩ := e
      exact q
    obtain ⟨y, cc, rfl⟩ := row_shape hrow
    obtain ⟨N, hN⟩ : ∃ N, N = pre.length := ⟨_, rfl⟩
    have hN256 : N ≤ 256 := by omega
    have HROW : Hid (W.ownsRow (w.heap.size + 5) 65 5 (.slice y N cc) N (bC (pre.map (tellZ cn c)))) := by unfold Hid; rw [hN]; exact hrow
    rw [← hN] at hv
    have hxlt : (x.1.h : Int) < (c.hs.length : Int) := by have := x.2; omega
    have HPOST : Hid (∀ (U : World) (y2 : Option Addr) (c2 : Nat), KeepsOthers W U → KpX (w.heap.size + 2) (w.heap.size + 5) W U → Boxed U (w.heap.size + 2) 37 (.slice y2 (N + 1) c2) → U.ownsRow (w.heap.size + 5) 65 5 (.slice y2 (N + 1) c2) (N + 1) (bC (pre.map (tellZ cn c)) ++ bV (tellZ cn c x)) → Below w.heap.size w U → w.heap.size + 5 ≤ U.heap.size →
        ownPostG w5.heap.size (KpX (w.heap.size + 2) (w.heap.size + 5)) (fun (pre : List (BdH c.hs.length)) W => (∃ v, Boxed W (w.heap.size + 2) 37 v ∧ W.ownsRow (w.heap.size + 5) 65 5 v pre.length (bC (pre.map (tellZ cn c))) ∧ True) ∧ Below w.heap.size w W ∧ (KpX (w.heap.size + 2) (w.heap.size + 5) w5 W ∧ w.heap.size + 5 ≤ W.heap.size)) (fun _ _ _ => False) (pre ++ [x]) W .normal { tmps := #[], defers := [] } U) := fun U y2 c2 q1 q2 q3 q4 q5 q6 => by
      refine ⟨q1.from _, q2, ⟨_, q3, ?_, trivial⟩, q5, HKP.out.trans q2, q6⟩
      rw [List.length_append, List.map_append, bC_app, ← hN]
      have e : bC (List.map (tellZ cn c) [x]) = bV (tellZ cn c x) := by simp [bC]
      rw [e]
      exact q4
    have e8 : bV (tellZ cn c x) = [.string cn, .string (c.hs[x.1.h]'x.2), .int .i64 x.1.a, .string c.fr, .int .i64 x.1.u] := rfl
    rw [e8] at HPOST
    obtain ⟨host, hhost⟩ : ∃ host, host = c.hs[x.1.h]'x.2 := ⟨_, rfl⟩
    rw [← hhost] at HPOST HCELLS
    obtain ⟨fr, hfr⟩ : ∃ fr, fr = c.fr := ⟨_, rfl⟩
    rw [← hfr] at HPOST HCELLS
    obtain ⟨g, hg⟩ : ∃ g, g = b.g := ⟨_, rfl⟩
    rw [← hg] at HCELLS ⊢
    clear hN hhost hfr hg e8 hhv HRD
    obtain ⟨⟨zh, za, zu⟩, zlt⟩ := x
    simp only at hxlt bX HCELLS HPOST zlt ⊢
    have bXd : Blk W.drew Bx #[.int .i64 (zh : Int), .int .i64 za, .int .i64 zu] 100 := bX
    have cO : W.drew.cell? ⟨w.heap.size + 2, 0, none⟩ = some (.slice y N cc) := hv.cell
    have cO9 : (W.alloc (.cells #[.string cn, .string host, .int .i64 za, .string fr, .int .i64 zu] 65)).drew.cell? ⟨w.heap.size + 2, 0, none⟩ = some (.slice y N cc) := (hv.alloc _).cell
    have hS9 : KpX (w.heap.size + 2) (w.heap.size + 5) w5 (W.alloc (.cells #[.string cn, .string host, .int .i64 za, .string fr, .int .i64 zu] 65)).drew ∧ Blk (W.alloc (.cells #[.string cn, .string host, .int .i64 za, .string fr, .int .i64 zu] 65)).drew Bx #[.int .i64 (zh : Int), .int .i64 za, .int .i64 zu] 100 := ⟨hKP.trans (KpX.of_below (((Below.refl _ W).alloc (by omega) _).drew)), bX.alloc _⟩
    gi_wp2
    refine wpIn_region_round (S := fun u => KpX (w.heap.size + 2) (w.heap.size + 5) w5 u ∧ Blk u Bx #[.int .i64 (zh : Int), .int .i64 za, .int .i64 zu] 100) (by kernel_rfl) (by kernel_rfl) (by rintro ⟨_, _, h⟩; exact h) ⟨hKP, bXd⟩ (fun hHeld => ?_)
    refine wpAnyH_take (i := 1) (v := .string cn) rfl (by kernel_rfl) (by kernel_rfl) (by kernel_rfl) (fun _ _ _ h => h) (Or.inl ⟨by rfl, ?_⟩) hHeld ?_
    · intro u hu
      obtain ⟨q0, q1, q2, q3, q4⟩ := HCELLS.out u hu.1
      go_simp
    simp only [Act.put, List.getElem_toArray, List.getElem_cons_succ, List.getElem_cons_zero, List.setIfInBounds_toArray, List.set_cons_zero, List.set_cons_succ]
    refine wpAnyH_take (i := 2) (v := .pointer (some ⟨g, 0, none⟩)) rfl (by kernel_rfl) (by kernel_rfl) (by kernel_rfl) (fun _ _ _ h => h) (Or.inl ⟨by rfl, ?_⟩) hHeld ?_
    · intro u hu
      obtain ⟨q0, q1, q2, q3, q4⟩ := HCELLS.out u hu.1
      go_simp
    simp only [Act.put, List.getElem_toArray, List.getElem_cons_succ, List.getElem_cons_zero, List.setIfInBounds_toArray, List.set_cons_zero, List.set_cons_succ]
    refine wpAnyH_take (i := 3) (v := .pointer (some ⟨g, 0, none⟩)) rfl (by kernel_rfl) (by kernel_rfl) (by kernel_rfl) (fun _ _ _ h => h) (Or.inl ⟨by rfl, ?_⟩) hHeld ?_
    · intro u hu
      go_simp
    simp only [Act.put, List.getElem_toArray, List.getElem_cons_succ, List.getElem_cons_zero, List.setIfInBounds_toArray, List.set_cons_zero, List.set_cons_succ]
    refine wpAnyH_take (i := 4) (v := .pointer (some ⟨g, 0, none⟩)) rfl (by kernel_rfl) (by kernel_rfl) (by kernel_rfl) (fun _ _ _ h => h) (Or.inl ⟨by rfl, ?_⟩) hHeld ?_
    · intro u hu
      go_simp
    simp only [Act.put, List.getElem_toArray, List.getElem_cons_succ, List.getElem_cons_zero, List.setIfInBounds_toArray, List.set_cons_zero, List.set_cons_succ]
    refine wpAnyH_take (i := 5) (v := .slice (some ⟨gh, 0, none⟩) c.hs.length ch) rfl (by kernel_rfl) (by kernel_rfl) (by kernel_rfl) (fun _ _ _ h => h) (Or.inl ⟨by rfl, ?_⟩) hHeld ?_
    · intro u hu
      obtain ⟨q0, q1, q2, q3, q4⟩ := HCELLS.out u hu.1
      go_simp
    simp only [Act.put, List.getElem_toArray, List.getElem_cons_succ, List.getElem_cons_zero, List.setIfInBounds_toArray, List.set_cons_zero, List.set_cons_succ]
    refine wpAnyH_take (i := 6) (v := .pointer (some ⟨Bx, 0, none⟩)) rfl (by kernel_rfl) (by kernel_rfl) (by kernel_rfl) (fun _ _ _ h => h) (Or.inl ⟨by rfl, ?_⟩) hHeld ?_
    · intro u hu
      go_simp
    simp only [Act.put, List.getElem_toArray, List.getElem_cons_succ, List.getElem_cons_zero, List.setIfInBounds_toArray, List.set_cons_zero, List.set_cons_succ]
    refine wpAnyH_take (i := 7) (v := .pointer (some ⟨Bx, 0, none⟩)) rfl (by kernel_rfl) (by kernel_rfl) (by kernel_rfl) (fun _ _ _ h => h) (Or.inl ⟨by rfl, ?_⟩) hHeld ?_
    · intro u hu
      go_simp
    simp only [Act.put, List.getElem_toArray, List.getElem_cons_succ, List.getElem_cons_zero, List.setIfInBounds_toArray, List.set_cons_zero, List.set_cons_succ]
    refine wpAnyH_take (i := 8) (v := .int .i64 (zh : Int)) rfl (by kernel_rfl) (by kernel_rfl) (by kernel_rfl) (fun _ _ _ h => h) (Or.inl ⟨by rfl, ?_⟩) hHeld ?_
    · intro u hu
      have a0 := hu.2.cell 0; simp only [List.getElem?_toArray, List.getElem?_cons_zero] at a0
      go_simp
    simp only [Act.put, List.getElem_toArray, List.getElem_cons_succ, List.getElem_cons_zero, List.setIfInBounds_toArray, List.set_cons_zero, List.set_cons_succ]
    refine wpAnyH_take (i := 9) (v := .pointer (some ⟨gh, zh, none⟩)) rfl (by kernel_rfl) (by kernel_rfl) (by kernel_rfl) (fun _ _ _ h => h) (Or.inl ⟨by rfl, ?_⟩) hHeld ?_
    · intro u hu
      go_simp
    simp only [Act.put, List.getElem_toArray, List.getElem_cons_succ, List.getElem_cons_zero, List.setIfInBounds_toArray, List.set_cons_zero, List.set_cons_succ]
    refine wpAnyH_take (i := 10) (v := .string host) rfl (by kernel_rfl) (by kernel_rfl) (by kernel_rfl) (fun _ _ _ h => h) (Or.inl ⟨by rfl, ?_⟩) hHeld ?_
    · intro u hu
      obtain ⟨q0, q1, q2, q3, q4⟩ := HCELLS.out u hu.1
      go_simp
    simp only [Act.put, List.getElem_toArray, List.getElem_cons_succ, List.getElem_cons_zero, List.setIfInBounds_toArray, List.set_cons_zero, List.set_cons_succ]
    refine wpAnyH_take (i := 11) (v := .pointer (some ⟨Bx, 0, none⟩)) rfl (by kernel_rfl) (by kernel_rfl) (by kernel_rfl) (fun _ _ _ h => h) (Or.inl ⟨by rfl, ?_⟩) hHeld ?_
    · intro u hu
      go_simp
    simp only [Act.put, List.getElem_toArray, List.getElem_cons_succ, List.getElem_cons_zero, List.setIfInBounds_toArray, List.set_cons_zero, List.set_cons_succ]
    refine wpAnyH_take (i := 12) (v := .pointer (some ⟨Bx, 1, none⟩)) rfl (by kernel_rfl) (by kernel_rfl) (by kernel_rfl) (fun _ _ _ h => h) (Or.inl ⟨by rfl, ?_⟩) hHeld ?_
    · intro u hu
      go_simp
    simp only [Act.put, List.getElem_toArray, List.getElem_cons_succ, List.getElem_cons_zero, List.setIfInBounds_toArray, List.set_cons_zero, List.set_cons_succ]
    refine wpAnyH_take (i := 13) (v := .int .i64 za) rfl (by kernel_rfl) (by kernel_rfl) (by kernel_rfl) (fun _ _ _ h => h) (Or.inl ⟨by rfl, ?_⟩) hHeld ?_
    · intro u hu
      have a0 := hu.2.cell 1; simp only [List.getElem?_toArray, List.getElem?_cons_succ, List.getElem?_cons_zero] at a0
      go_simp
    simp only [Act.put, List.getElem_toArray, List.getElem_cons_succ, List.getElem_cons_zero, List.setIfInBounds_toArray, List.set_cons_zero, List.set_cons_succ]
    refine wpAnyH_take (i := 14) (v := .pointer (some ⟨g, 0, none⟩)) rfl (by kernel_rfl) (by kernel_rfl) (by kernel_rfl) (fun _ _ _ h => h) (Or.inl ⟨by rfl, ?_⟩) hHeld ?_
    · intro u hu
      obtain ⟨q0, q1, q2, q3, q4⟩ := HCELLS.out u hu.1
      go_simp
    simp only [Act.put, List.getElem_toArray, List.getElem_cons_succ, List.getElem_cons_zero, List.setIfInBounds_toArray, List.set_cons_zero, List.set_cons_succ]
    refine wpAnyH_take (i := 15) (v := .pointer (some ⟨g, 0, none⟩)) rfl (by kernel_rfl) (by kernel_rfl) (by kernel_rfl) (fun _ _ _ h => h) (Or.inl ⟨by rfl, ?_⟩) hHeld ?_
    · intro u hu
      go_simp
    simp only [Act.put, List.getElem_toArray, List.getElem_cons_succ, List.getElem_cons_zero, List.setIfInBounds_toArray, List.set_cons_zero, List.set_cons_succ]
    refine wpAnyH_take (i := 16) (v := .pointer (some ⟨g, 1, none⟩)) rfl (by kernel_rfl) (by kernel_rfl) (by kernel_rfl) (fun _ _ _ h => h) (Or.inl ⟨by rfl, ?_⟩) hHeld ?_
    · intro u hu
      go_simp
    simp only [Act.put, List.getElem_toArray, List.getElem_cons_succ, List.getElem_cons_zero, List.setIfInBounds_toArray, List.set_cons_zero, List.set_cons_succ]
    refine wpAnyH_take (i := 17) (v := .string fr) rfl (by kernel_rfl) (by kernel_rfl) (by kernel_rfl) (fun _ _ _ h => h) (Or.inl ⟨by rfl, ?_⟩) hHeld ?_
    · intro u hu
      obtain ⟨q0, q1, q2, q3, q4⟩ := HCELLS.out u hu.1
      go_simp
    simp only [Act.put, List.getElem_toArray, List.getElem_cons_succ, List.getElem_cons_zero, List.setIfInBounds_toArray, List.set_cons_zero, List.set_cons_succ]
    refine wpAnyH_take (i := 18) (v := .pointer (some ⟨Bx, 2, none⟩)) rfl (by kernel_rfl) (by kernel_rfl) (by kernel_rfl) (fun _ _ _ h => h) (Or.inl ⟨by rfl, ?_⟩) hHeld ?_
    · intro u hu
      go_simp
    simp only [Act.put, List.getElem_toArray, List.getElem_cons_succ, List.getElem_cons_zero, List.setIfInBounds_toArray, List.set_cons_zero, List.set_cons_succ]
    refine wpAnyH_take (i := 19) (v := .int .i64 zu) rfl (by kernel_rfl) (by kernel_rfl) (by kernel_rfl) (fun _ _ _ h => h) (Or.inl ⟨by rfl, ?_⟩) hHeld ?_
    · intro u hu
      have a0 := hu.2.cell 2; simp only [List.getElem?_toArray, List.getElem?_cons_succ, List.getElem?_cons_zero] at a0
      go_simp
    simp only [Act.put, List.getElem_toArray, List.getElem_cons_succ, List.getElem_cons_zero, List.setIfInBounds_toArray, List.set_cons_zero, List.set_cons_succ]
    refine wpAnyH_take (i := 20) (v := .agg #[.string cn, .string host, .int .i64 za, .string fr, .int .i64 zu]) rfl (by kernel_rfl) (by kernel_rfl) (by kernel_rfl) (fun _ _ _ h => h) (Or.inl ⟨by rfl, ?_⟩) hHeld ?_
    · intro u hu
      go_simp
    simp only [Act.put, List.getElem_toArray, List.getElem_cons_succ, List.getElem_cons_zero, List.setIfInBounds_toArray, List.set_cons_zero, List.set_cons_succ]
    refine wpAnyH_ready (rs := [0, 21]) (by kernel_rfl) (by simp) ?_
    refine AllReadyH.cons rfl (fun K hK => ?_) (AllReadyH.cons rfl (fun K hK => ?_) AllReadyH.nil)
    · go_simp
      refine hK.out _ _ hHeld (fun hHeld => ?_)
      clear hK K
      refine wpAnyH_ready (rs := [21]) (by kernel_rfl) (by simp) ?_
      refine AllReadyH.cons rfl (fun K hK => ?_) AllReadyH.nil
      go_simp
      refine hK.out _ _ hS9 (fun hHeld => ?_)
      clear hK K
      obtain ⟨X, hX⟩ : ∃ X, X = (W.alloc (.cells #[.string cn, .string host, .int .i64 za, .string fr, .int .i64 zu] 65)).drew := ⟨_, rfl⟩
      have kX : Blk X W.heap.size #[.string cn, .string host, .int .i64 za, .string fr, .int .i64 zu] 65 := by rw [hX]; exact Blk.new W _ _
      have bX9 : Below W.heap.size W X := by rw [hX]; exact ((lay (Below.refl _ _) _)).drew
      have vX : Boxed X (w.heap.size + 2) 37 (.slice y N cc) := by rw [hX]; exact hv.alloc _
      rw [← hX]
      clear hX
      have HRX := own_past HROW.out bX9
      refine wpAnyH_ready (rs := [22]) (by kernel_rfl) (by simp) ?_
      refine AllReadyH.cons rfl (fun K hK => ?_) AllReadyH.nil
      refine step_appG _ rfl (.tmp 15) (.tmp 36) 37 65 iB _ 5 64 Tryz.underlying37 hiB hzB0 hzB1 hzB2 rfl (by decide) rfl (w.heap.size + 5) _ N _ rfl HRX (.slice (some ⟨W.heap.size, 0, none⟩) 1 1) 1 [.string cn, .string host, .int .i64 za, .string fr, .int .i64 zu] rfl (Row.of_blk kX rfl 1 1) rfl (by simp [Value.oneCell']) (by omega) (by unfold maxLen; omega) (by have := bX9.size; omega) ?_
      intro v2 w2 h1 h3 h4
      have vw : Boxed w2 (w.heap.size + 2) 37 (.slice y N cc) := vX.kept h3 (vX.not_row (by decide) HRX)
      have hlt2 : ∀ k, (Value.slice y N cc).ownBlock = some k → w.heap.size + 5 ≤ k := fun k hk => (HROW.out.lt k hk).1
      have T0 : Turn (fun k => w.heap.size + 5 ≤ k) W w2 := (Turn.of_below bX9).trans (Turn.of_grown (S := fun k => w.heap.size + 5 ≤ k) h3 (fun k e => hlt2 k e)) (fun i hi => .inl hi)
      have bX2 : Blk w2 Bx #[.int .i64 (zh : Int), .int .i64 za, .int .i64 zu] 100 := (bX.below bX9).grown h3 (fun e => by obtain ⟨cur, hc⟩ := own_cells HRX e.symm; exact absurd (blk_tag hc (bX.below bX9)) (by decide))
      refine hK.out _ _ ⟨HKP.out.trans (KpX.of_turn T0 hW (fun k h => .inr h)), bX2⟩ (fun hHeld => ?_)
      clear hK K
      obtain ⟨y2, c2, rfl⟩ := row_shape h1
      simp only [Act.put, List.getElem_toArray, List.getElem_cons_succ, List.getElem_cons_zero, List.setIfInBounds_toArray, List.set_cons_zero, List.set_cons_succ]
      have q1 := vw.cell
      have q2 := vw.frozen
      have HK2 : KeepsOthers W (w2.setCell ⟨w.heap.size + 2, 0, none⟩ (.slice y2 (N + 1) c2)) := (((KeepsOthers.of_grownBy (row := none) ⟨bX9.os, bX9.tape, bX9.output, bX9.size, fun k hk _ => bX9.block k hk⟩ (fun j o ej hj => by cases ej))).trans (keeps_app HRX h3)).trans (KeepsOthers.setCell _ _ _)
      have T1 : Turn (fun k => k = w.heap.size + 2 ∨ w.heap.size + 5 ≤ k) W (w2.setCell ⟨w.heap.size + 2, 0, none⟩ (.slice y2 (N + 1) c2)) := (T0.more (fun k h => .inr h)).trans (Turn.of_set (S := fun k => k = w.heap.size + 2) w2 (p := ⟨w.heap.size + 2, 0, none⟩) rfl _) (fun i e => .inl (.inl e))
      have K1 : KpX (w.heap.size + 2) (w.heap.size + 5) W (w2.setCell ⟨w.heap.size + 2, 0, none⟩ (.slice y2 (N + 1) c2)) := KpX.of_turn T1 hW (fun k h => h)
      have bX3 : Blk (w2.setCell ⟨w.heap.size + 2, 0, none⟩ (.slice y2 (N + 1) c2)) Bx #[.int .i64 (zh : Int), .int .i64 za, .int .i64 zu] 100 := bX2.other (by omega) _ _
      have HF := HPOST.out _ y2 c2 HK2 K1 (vw.set _) ((Turn.of_set (S := fun k => k = w.heap.size + 2) w2 (p := ⟨w.heap.size + 2, 0, none⟩) rfl _).row h1 (fun k hk e => by have := (h1.lt k hk).1; omega)) (Turn.below HBW.out T1 HBW.out.size (fun i hi => by omega)) (by have := T1.size; omega)
      refine wpAnyH_ready (rs := [23]) (by kernel_rfl) (by simp) ?_
      refine AllReadyH.cons rfl (fun K hK => ?_) AllReadyH.nil
      go_simp
      refine hK.out _ _ ⟨HKP.out.trans K1, bX3⟩ (fun _ => ?_)
      refine wpAnyH_done (by kernel_rfl) ?_ _
      exact HF
    · go_simp
      refine hK.out _ _ hS9 (fun hHeld => ?_)
      clear hK K
      refine wpAnyH_ready (rs := [0]) (by kernel_rfl) (by simp) ?_
      refine AllReadyH.cons rfl (fun K hK => ?_) AllReadyH.nil
      go_simp
      refine hK.out _ _ hS9 (fun hHeld => ?_)
      clear hK K
      obtain ⟨X, hX⟩ : ∃ X, X = (W.alloc (.cells #[.string cn, .string host, .int .i64 za, .string fr, .int .i64 zu] 65)).drew := ⟨_, rfl⟩
      have kX : Blk X W.heap.size #[.string cn, .string host, .int .i64 za, .string fr, .int .i64 zu] 65 := by rw [hX]; exact Blk.new W _ _
      have bX9 : Below W.heap.size W X := by rw [hX]; exact ((lay (Below.refl _ _) _)).drew
      have vX : Boxed X (w.heap.size + 2) 37 (.slice y N cc) := by rw [hX]; exact hv.alloc _
      rw [← hX]
      clear hX
      have HRX := own_past HROW.out bX9
      refine wpAnyH_ready (rs := [22]) (by kernel_rfl) (by simp) ?_
      refine AllReadyH.cons rfl (fun K hK => ?_) AllReadyH.nil
      refine step_appG _ rfl (.tmp 15) (.tmp 36) 37 65 iB _ 5 64 Tryz.underlying37 hiB hzB0 hzB1 hzB2 rfl (by decide) rfl (w.heap.size + 5) _ N _ rfl HRX (.slice (some ⟨W.heap.size, 0, none⟩) 1 1) 1 [.string cn, .string host, .int .i64 za, .string fr, .int .i64 zu] rfl (Row.of_blk kX rfl 1 1) rfl (by simp [Value.oneCell']) (by omega) (by unfold maxLen; omega) (by have := bX9.size; omega) ?_
      intro v2 w2 h1 h3 h4
      have vw : Boxed w2 (w.heap.size + 2) 37 (.slice y N cc) := vX.kept h3 (vX.not_row (by decide) HRX)
      have hlt2 : ∀ k, (Value.slice y N cc).ownBlock = some k → w.heap.size + 5 ≤ k := fun k hk => (HROW.out.lt k hk).1
      have T0 : Turn (fun k => w.heap.size + 5 ≤ k) W w2 := (Turn.of_below bX9).trans (Turn.of_grown (S := fun k => w.heap.size + 5 ≤ k) h3 (fun k e => hlt2 k e)) (fun i hi => .inl hi)
      have bX2 : Blk w2 Bx #[.int .i64 (zh : Int), .int .i64 za, .int .i64 zu] 100 := (bX.below bX9).grown h3 (fun e => by obtain ⟨cur, hc⟩ := own_cells HRX e.symm; exact absurd (blk_tag hc (bX.below bX9)) (by decide))
      refine hK.out _ _ ⟨HKP.out.trans (KpX.of_turn T0 hW (fun k h => .inr h)), bX2⟩ (fun hHeld => ?_)
      clear hK K
      obtain ⟨y2, c2, rfl⟩ := row_shape h1
      simp only [Act.put, List.getElem_toArray, List.getElem_cons_succ, List.getElem_cons_zero, List.setIfInBounds_toArray, List.set_cons_zero, List.set_cons_succ]
      have q1 := vw.cell
      have q2 := vw.frozen
      have HK2 : KeepsOthers W (w2.setCell ⟨w.heap.size + 2, 0, none⟩ (.slice y2 (N + 1) c2)) := (((KeepsOthers.of_grownBy (row := none) ⟨bX9.os, bX9.tape, bX9.output, bX9.size, fun k hk _ => bX9.block k hk⟩ (fun j o ej hj => by cases ej))).trans (keeps_app HRX h3)).trans (KeepsOthers.setCell _ _ _)
      have T1 : Turn (fun k => k = w.heap.size + 2 ∨ w.heap.size + 5 ≤ k) W (w2.setCell ⟨w.heap.size + 2, 0, none⟩ (.slice y2 (N + 1) c2)) := (T0.more (fun k h => .inr h)).trans (Turn.of_set (S := fun k => k = w.heap.size + 2) w2 (p := ⟨w.heap.size + 2, 0, none⟩) rfl _) (fun i e => .inl (.inl e))
      have K1 : KpX (w.heap.size + 2) (w.heap.size + 5) W (w2.setCell ⟨w.heap.size + 2, 0, none⟩ (.slice y2 (N + 1) c2)) := KpX.of_turn T1 hW (fun k h => h)
      have bX3 : Blk (w2.setCell ⟨w.heap.size + 2, 0, none⟩ (.slice y2 (N + 1) c2)) Bx #[.int .i64 (zh : Int), .int .i64 za, .int .i64 zu] 100 := bX2.other (by omega) _ _
      have HF := HPOST.out _ y2 c2 HK2 K1 (vw.set _) ((Turn.of_set (S := fun k => k = w.heap.size + 2) w2 (p := ⟨w.heap.size + 2, 0, none⟩) rfl _).row h1 (fun k hk e => by have := (h1.lt k hk).1; omega)) (Turn.below HBW.out T1 HBW.out.size (fun i hi => by omega)) (by have := T1.size; omega)
      refine wpAnyH_ready (rs := [23]) (by kernel_rfl) (by simp) ?_
      refine AllReadyH.cons rfl (fun K hK => ?_) AllReadyH.nil
      go_simp
      refine hK.out _ _ ⟨HKP.out.trans K1, bX3⟩ (fun _ => ?_)
      refine wpAnyH_done (by kernel_rfl) ?_ _
      exact HF
  · rintro D xs W hD rfl ⟨⟨v, hv, hrow, _⟩, hB, hKP, hW⟩ hK
    have hc := hv.cell
    gi_wp2
    refine ⟨by simp, .inl ⟨_, _, rfl, run_takeDeferred hK, ?_⟩⟩
    have hrow2 := own_base (ownsRow_putObj hrow (.deferred none) hK rfl) (show w.heap.size ≤ w.heap.size + 5 by omega)
    rw [HEND.out.1, HEND.out.2] at hrow2
    exact ⟨_, results_tmp rfl _ _ _, v, rfl, hrow2, hB.trans (belowK_b (w := w) (Nat.le_refl _) W D _ _ (by omega) hK rfl rfl)⟩
  · rintro D cd pre W hD hq hF
    exact hF.elim

end Cu
end Go.Proofs.YtnjgdfmldjgloaaGreat

/- The map of a Cuts: names to cuts, in memory. -/
namespace Go.Proofs.YtnjgdfmldjgloaaGreat
open Go.RowKit
open Pl
namespace Cu

/-- A cut and where it lies. -/
abbrev Pr := Ct × CB
/-- How a pointer to a cut is read. -/
def rE : Value → Option (DataW Nat × List MemPlace)
  | .pointer (some ⟨g, 0, none⟩) => some (.held g, [])
  | .pointer none => some (.nil, [])
  | _ => none
theorem rE_inv {v : Value} {g : Nat} {q : List MemPlace} (h : rE v = some (.held g, q)) : v = .pointer (some ⟨g, 0, none⟩) := by
  unfold rE at h
  split at h
  · simp at h; rw [h.1]
  · simp at h
  · cases h
theorem rE_nil {v : Value} {q : List MemPlace} (h : rE v = some (.nil, q)) : v = .pointer none := by
  unfold rE at h
  split at h
  · simp at h
  · rfl
  · cases h
def sameP (n : ByteArray) (p : Pr) : Bool := decide (p.1.n = n)
theorem sameP_iff {n : ByteArray} {p : Pr} : sameP n p = true ↔ p.1.n = n := by unfold sameP; simp
def DisP (L : List Pr) : Prop := L.Pairwise (fun x y => sameP x.1.n y = false)
theorem sameP_symm {x y : Pr} (h : sameP x.1.n y = false) : sameP y.1.n x = false := by
  cases e : sameP y.1.n x with
  | false => rfl
  | true => rw [sameP_iff] at e; rw [sameP_iff.2 e.symm] at h; cases h
theorem DisP.at {L : List Pr} (h : DisP L) {i j : Nat} (hi : i < L.length) (hj : j < L.length) (hij : i ≠ j) : sameP L[i].1.n L[j] = false := by
  rcases Nat.lt_or_gt_of_ne hij with h1 | h1
  · exact List.pairwise_iff_getElem.1 h i j hi hj h1
  · exact sameP_symm (List.pairwise_iff_getElem.1 h j i hj hi h1)
theorem DisP.snoc {L : List Pr} {p : Pr} (h : DisP L) (hn : ∀ x ∈ L, sameP p.1.n x = false) : DisP (L ++ [p]) := by
  refine List.pairwise_append.2 ⟨h, List.pairwise_singleton _ _, fun x hx y hy => ?_⟩
  simp at hy
  subst hy
  exact sameP_symm (hn x hx)
theorem DisP.sub {L M : List Pr} (h : DisP L) (hs : M.Sublist L) : DisP M := List.Pairwise.sublist hs h

theorem laidOutE : laidOutB Tryz.prog = true := by kernel_rfl
theorem keyE : Go.Maps.Keyed Tryz.prog 76 := Go.Maps.Keyed.of_law (deep_law_laid laidOutE (m := 3) (by omega) (of_decide_eq_true (by kernel_rfl)) (by kernel_rfl) (by kernel_rfl))
/-- A name and a type as a key. -/
def kyL (n : ByteArray) : Lit := .string (keyBytes [.string n.data.toList])
def kyV (n : ByteArray) : Value := .agg #[.string n]
theorem typesE : ∃ m, Tryz.prog.types.size = m + 1 := ⟨Tryz.prog.types.size - 1, by have : (1 : Nat) ≤ Tryz.prog.types.size := of_decide_eq_true (by kernel_rfl); omega⟩
theorem cellsE : Tryz.prog.cellsOf 76 = 1 := by kernel_rfl
theorem cellsE9 : Tryz.prog.cellsOf 9 = 1 := by kernel_rfl
theorem cellsE3 : Tryz.prog.cellsOf 3 = 1 := by kernel_rfl
theorem keyOf_e {n : ByteArray} (hn : n.size ≤ maxLen) : keyOf Tryz.prog 76 (kyV n) = some (kyL n) := by
  obtain ⟨m, hm⟩ := typesE
  have hk : Tryz.prog.keyType 76 = true := by kernel_rfl
  unfold keyOf kyV
  rw [Tryz.underlying76]
  simp only [hk, Bool.true_and, Value.formed, Tryz.underlying76, cellsE]
  have h2 : (#[Value.string n].size == 1) = true := rfl
  rw [if_pos h2, hm]
  simp [Program.keyLits, Tryz.underlying76, Tryz.underlying9, cellsE, cellsE9, Value.cells, hn, kyL]
theorem ky_inj {n n' : ByteArray} (hn : n.size ≤ maxLen) (hn' : n'.size ≤ maxLen) (h : kyL n = kyL n') : n = n' := by
  have h1 := keyOf_e (n := n) hn
  have h2 := keyOf_e (n := n') hn'
  rw [← h] at h2
  have := keyE.inj h1 h2
  unfold kyV at this
  simp at this
  exact this

theorem isKyL (n : ByteArray) : WideAt.IsKeyLit (kyL n) := by simp [WideAt.IsKeyLit, kyL]
theorem max_ok {n : ByteArray} {t : Int} (h : OkK n t) : n.size ≤ maxLen := by have := h.size; unfold maxLen; omega
theorem same_ky {p : Pr} (hp : OkC p.1) {n : ByteArray} (hn : n.size ≤ maxLen) : (kyL p.1.n).sameKey (kyL n) = sameP n p := by
  cases h : sameP n p with
  | true =>
    obtain rfl := sameP_iff.1 h
    exact WideAt.sameKey_self (isKyL _)
  | false =>
    refine Maps.sameKey_ne (fun e' => ?_)
    have := ky_inj (max_ok hp.nm) hn e'
    rw [sameP_iff.2 this] at h
    cases h

/-- A map's reading and the entries that are held, each with its row of texts. -/
def ents (L : List Pr) : List (Lit × DataW Nat) := L.map fun p => (kyL p.1.n, .held p.2.g)
def MapOf (D : DataW Nat) (L : List Pr) : Prop := ∃ es, D = .map es ∧ es.Perm (ents L)
structure Good (L : List Pr) : Prop where
  ok : ∀ p ∈ L, OkC p.1
  dis : DisP L
theorem mapOf_nil : MapOf (.map []) [] := ⟨[], rfl, List.Perm.refl _⟩
theorem any_perm {α : Type} {f : α → Bool} {a b : List α} (h : a.Perm b) : a.any f = b.any f := by
  rw [Bool.eq_iff_iff, List.any_eq_true, List.any_eq_true]
  exact ⟨fun ⟨x, hx, hf⟩ => ⟨x, h.mem_iff.1 hx, hf⟩, fun ⟨x, hx, hf⟩ => ⟨x, h.mem_iff.2 hx, hf⟩⟩
theorem mapOf_size {D : DataW Nat} {L : List Pr} (h : MapOf D L) : Maps.size D = L.length := by
  obtain ⟨es, rfl, hp⟩ := h
  rw [Maps.size_eq, hp.length_eq]; simp [ents]
theorem mapOf_has {D : DataW Nat} {L : List Pr} (h : MapOf D L) (hg : Good L) {n : ByteArray} (hn : n.size ≤ maxLen) : Maps.has D (kyL n) = L.any (fun p => sameP n p) := by
  obtain ⟨es, rfl, hp⟩ := h
  rw [Maps.has_eq, any_perm hp]
  unfold ents
  rw [List.any_map]
  rw [Bool.eq_iff_iff, List.any_eq_true, List.any_eq_true]
  constructor
  · rintro ⟨p, hp, hs⟩; exact ⟨p, hp, by rw [← same_ky (hg.ok p hp) hn]; exact hs⟩
  · rintro ⟨p, hp, hs⟩; exact ⟨p, hp, by show (kyL p.1.n).sameKey (kyL n) = true; rw [same_ky (hg.ok p hp) hn]; exact hs⟩
theorem Good.one {L : List Pr} (hg : Good L) {p q : Pr} (hp : p ∈ L) (hq : q ∈ L) (h : sameP p.1.n q = true) : p = q := by
  obtain ⟨i, hi, rfl⟩ := List.getElem_of_mem hp
  obtain ⟨j, hj, rfl⟩ := List.getElem_of_mem hq
  by_cases e : i = j
  · subst e; rfl
  · have := hg.dis.at hi hj e
    rw [this] at h
    cases h
theorem mapOf_at {D : DataW Nat} {L : List Pr} (h : MapOf D L) (hg : Good L) {p : Pr} (hp : p ∈ L) (z : DataW Nat) : D.atKey (kyL p.1.n) z = .held p.2.g := by
  obtain ⟨es, rfl, hpm⟩ := h
  unfold DataW.atKey
  have hmem : ((kyL p.1.n, DataW.held p.2.g) : Lit × DataW Nat) ∈ es := hpm.mem_iff.2 (List.mem_map.2 ⟨p, hp, rfl⟩)
  cases hf : es.find? (fun q => q.1.sameKey (kyL p.1.n)) with
  | none =>
    have := List.find?_eq_none.1 hf _ hmem
    simp [WideAt.sameKey_self (isKyL p.1.n)] at this
  | some q =>
    have h1 := List.find?_some hf
    have h2 := List.mem_of_find?_eq_some hf
    obtain ⟨q', hq', rfl⟩ := List.mem_map.1 (hpm.mem_iff.1 h2)
    have h3 : sameP p.1.n q' = true := by rw [← same_ky (hg.ok q' hq') (max_ok (hg.ok p hp).nm)]; exact h1
    obtain rfl := hg.one hp hq' h3
    simp only [hf]
theorem Good.sub {L M : List Pr} (h : Good L) (hs : M.Sublist L) : Good M := ⟨fun p hp => h.ok p (hs.subset hp), h.dis.sub hs⟩
theorem Good.snoc {L : List Pr} (h : Good L) {p : Pr} (hp : OkC p.1) (hn : ∀ q ∈ L, sameP p.1.n q = false) : Good (L ++ [p]) := by
  refine ⟨fun q hq => ?_, ?_⟩
  · rcases List.mem_append.1 hq with hq | hq
    · exact h.ok q hq
    · simp at hq; subst hq; exact hp
  · exact DisP.snoc h.dis hn
theorem mapOf_del {D : DataW Nat} {L : List Pr} (h : MapOf D L) (hg : Good L) {n : ByteArray} (hn : n.size ≤ maxLen) : MapOf (D.del (kyL n)) (L.filter fun p => !sameP n p) := by
  obtain ⟨es, rfl, hp⟩ := h
  refine ⟨_, rfl, (hp.filter _).trans ?_⟩
  unfold ents
  rw [List.filter_map]
  refine List.Perm.of_eq (congrArg _ (List.filter_congr (fun p hp => ?_)))
  show (!(kyL p.1.n).sameKey (kyL n)) = _
  rw [same_ky (hg.ok p hp) hn]
theorem insert_perm (x : Lit × DataW Nat) : ∀ l, (DataW.insert x l).Perm (x :: l) := by
  intro l
  induction l with
  | nil => exact List.Perm.refl _
  | cons y l ih =>
    unfold DataW.insert
    split
    · exact List.Perm.refl _
    · exact ((ih.cons y).trans (List.Perm.swap x y l))
theorem mapOf_put {D : DataW Nat} {L : List Pr} (h : MapOf D L) (hg : Good L) (p : Pr) (hp : OkC p.1) (hn : ∀ q ∈ L, sameP p.1.n q = false) : MapOf (D.put (kyL p.1.n) (.held p.2.g)) (L ++ [p]) := by
  obtain ⟨es, rfl, hpm⟩ := h
  refine ⟨_, rfl, ?_⟩
  have hf : es.filter (fun q => !q.1.sameKey (kyL p.1.n)) = es := List.filter_eq_self.2 (fun q hq => by
    obtain ⟨q', hq', rfl⟩ := List.mem_map.1 (hpm.mem_iff.1 hq)
    show (!(kyL q'.1.n).sameKey (kyL p.1.n)) = true
    rw [same_ky (hg.ok q' hq') (max_ok hp.nm), hn q' hq']; rfl)
  rw [hf]
  refine (insert_perm _ _).trans ?_
  unfold ents
  rw [List.map_append]
  exact (hpm.cons _).trans (List.perm_append_singleton _ _).symm

/-- The entries of a map lie in memory. -/
structure Hold (w : World) (b : Nat) (L : List Pr) : Prop where
  map : ∃ n D, w.ownsMap Tryz.prog 76 rE b n D ∧ MapOf D L
  good : Good L
theorem own_tight {w : World} {b n : Nat} {D : DataW Nat} (h : w.ownsMap Tryz.prog 76 rE b n D) : w.ownsMap Tryz.prog 76 rE b (Maps.size D) D := by
  obtain ⟨es, clock, hb, F, _, rfl⟩ := h
  exact ⟨es, clock, hb, F, by simp [Maps.size, length_sorted], rfl⟩
theorem own_turn {S : Nat → Prop} {w w' : World} {b n : Nat} {D : DataW Nat} (h : w.ownsMap Tryz.prog 76 rE b n D) (ht : Turn S w w') (hs : ¬ S b) : w'.ownsMap Tryz.prog 76 rE b n D := by
  have hlt := h.lt
  obtain ⟨es, clock, hb, F, hn, rfl⟩ := h
  exact ⟨es, clock, (ht.block b hlt hs).trans hb, F, hn, rfl⟩
theorem Hold.turn {S : Nat → Prop} {w w' : World} {b : Nat} {L : List Pr} (h : Hold w b L) (ht : Turn S w w') (hb : ¬ S b) : Hold w' b L := by
  obtain ⟨n, D, ho, hm⟩ := h.map
  exact ⟨⟨n, D, own_turn ho ht hb, hm⟩, h.good⟩
theorem Hold.own {w : World} {b : Nat} {L : List Pr} (h : Hold w b L) : ∃ D, w.ownsMap Tryz.prog 76 rE b L.length D ∧ MapOf D L := by
  obtain ⟨n, D, ho, hm⟩ := h.map
  refine ⟨D, ?_, hm⟩
  have := own_tight ho
  rw [mapOf_size hm] at this
  exact this
theorem Hold.blk {w : World} {b : Nat} {L : List Pr} (h : Hold w b L) : ∃ es clock, w.heap[b]? = some (.map es clock) := by
  obtain ⟨n, D, ⟨es, clock, hb, _⟩, _⟩ := h.map
  exact ⟨es, clock, hb⟩
def MapAt (w : World) (mb : Option Nat) (L : List Pr) : Prop := (mb = none ∧ L = []) ∨ ∃ b, mb = some b ∧ Hold w b L
theorem MapAt.good {w : World} {mb : Option Nat} {L : List Pr} (h : MapAt w mb L) : Good L := by
  rcases h with ⟨_, rfl⟩ | ⟨b, _, h⟩
  · exact ⟨fun p hp => by simp at hp, List.Pairwise.nil⟩
  · exact h.good
theorem MapAt.turn {S : Nat → Prop} {w w' : World} {mb : Option Nat} {L : List Pr} (h : MapAt w mb L) (ht : Turn S w w') (hb : ∀ b, mb = some b → ¬ S b) : MapAt w' mb L :=
  h.imp id (fun ⟨b, e, hh⟩ => ⟨b, e, hh.turn ht (hb b e)⟩)
theorem MapAt.below {w w' : World} {mb : Option Nat} {L : List Pr} (h : MapAt w mb L) (hb : Below w.heap.size w w') : MapAt w' mb L := h.turn (Turn.of_below (S := fun _ => False) hb) (fun _ _ => id)

/-- What is told of a name and a type. -/
def eZ : Value := .pointer none
theorem zeroE (w : World) : (zeroValue 80).run Tryz.prog w = .ok eZ w := Tryz.zeroValue80 w
def atL (L : List Pr) (n : ByteArray) : Option Pr := L.find? fun p => sameP n p
def vL (L : List Pr) (n : ByteArray) : Value := match atL L n with | some p => .pointer (some ⟨p.2.g, 0, none⟩) | none => eZ
def bL (L : List Pr) (n : ByteArray) : Bool := (atL L n).isSome
theorem atL_some {L : List Pr} {n : ByteArray} {p : Pr} (h : atL L n = some p) : p ∈ L ∧ p.1.n = n := by
  unfold atL at h
  exact ⟨List.mem_of_find?_eq_some h, sameP_iff.1 (by simpa using List.find?_some h)⟩
theorem atL_none {L : List Pr} {n : ByteArray} (h : atL L n = none) : ∀ p ∈ L, sameP n p = false := by
  unfold atL at h
  intro p hp
  simpa using List.find?_eq_none.1 h p hp
theorem atL_mem {L : List Pr} (hg : Good L) {p : Pr} (hp : p ∈ L) : atL L p.1.n = some p := by
  cases h : atL L p.1.n with
  | none => have := atL_none h p hp; rw [sameP_iff.2 rfl] at this; cases this
  | some q =>
    obtain ⟨h1, h2⟩ := atL_some h
    rw [hg.one hp h1 (sameP_iff.2 h2)]
theorem MapAt.look {w : World} {mb : Option Nat} {L : List Pr} (h : MapAt w mb L) {n : ByteArray} (hn : n.size ≤ maxLen) :
    (Instr.lookup 59 (.map mb) (kyV n) true).run Tryz.prog w = .ok (.tuple #[vL L n, .bool (bL L n)]) w := by
  rcases h with ⟨rfl, rfl⟩ | ⟨b, rfl, hh⟩
  · have := Maps.look_nil (P := Tryz.prog) (w := w) (t := 59) true keyE Tryz.underlying59 (zeroE w) (keyOf_e hn)
    exact this
  · obtain ⟨k, D, ho, hm⟩ := hh.map
    obtain ⟨v, ps, hrun, hv⟩ := ho.look_ok keyE Tryz.underlying59 (zeroE w) (zd := .nil) (zp := []) rfl (keyOf_e hn)
    rw [hrun, mapOf_has hm hh.good hn]
    cases ha : atL L n with
    | none =>
      have hf : L.any (fun p => sameP n p) = false := by
        rw [List.any_eq_false]
        intro p hp
        rw [atL_none ha p hp]; simp
      rw [hf]
      have hat := Maps.atKey_of_not_has (k := kyL n) (D := D) (by rw [mapOf_has hm hh.good hn, hf]) (.nil)
      rw [hat] at hv
      rw [rE_nil hv]
      unfold vL bL
      rw [ha]
      rfl
    | some p =>
      obtain ⟨h1, rfl⟩ := atL_some ha
      have hf : L.any (fun q => sameP p.1.n q) = true := List.any_eq_true.2 ⟨p, h1, sameP_iff.2 rfl⟩
      rw [hf]
      rw [mapOf_at hm hh.good h1] at hv
      rw [rE_inv hv]
      unfold vL bL
      rw [ha]
      rfl
theorem MapAt.len {w : World} {mb : Option Nat} {L : List Pr} (h : MapAt w mb L) (ty : TypeId) : (Builtin.len_ #[59] ty #[.map mb]).run Tryz.prog w = .ok (.int .i64 (L.length : Nat)) w := by
  rcases h with ⟨rfl, rfl⟩ | ⟨b, rfl, hh⟩
  · exact Maps.len_nil Tryz.underlying59 ty
  · obtain ⟨k, D, ho, hm⟩ := hh.map
    rw [ho.len Tryz.underlying59 ty, mapOf_size hm]

/-- A range over the map: one of its entries comes. -/
theorem rg_next {w : World} {b r n cnt : Nat} {D : DataW Nat} {left : Lit → Bool} {L : List Pr} (h : w.ranges Tryz.prog 76 rE b r n D left cnt) (hm : MapOf D L) (hg : Good L) (ty : TypeId) :
    (cnt = 0 ∧ (∀ kl, left kl = false) ∧ (Instr.next (.pointer (some ⟨r, 0, none⟩)) false ty).run Tryz.prog w = .ok (.tuple #[.bool false]) w) ∨
    ∃ (p : Pr) (w' : World) (cnt' : Nat), p ∈ L ∧ left (kyL p.1.n) = true ∧ (Instr.next (.pointer (some ⟨r, 0, none⟩)) false ty).run Tryz.prog w = .ok (.tuple #[.bool true, kyV p.1.n, .pointer (some ⟨p.2.g, 0, none⟩)]) w' ∧
      w'.ranges Tryz.prog 76 rE b r n D (fun x => left x && !x.sameKey (kyL p.1.n)) cnt' ∧ cnt' < cnt ∧ w.grownBy w' (some r) ∧ w'.heap.size = w.heap.size ∧ (Instr.entry (.pointer (some ⟨r, 0, none⟩))).run Tryz.prog w' = .ok (.tuple #[kyV p.1.n, .pointer (some ⟨p.2.g, 0, none⟩)]) w' := by
  rcases h.next keyE ty with h | ⟨key, v, kl, y, w', cnt', hkey, hlk, hv, hat, hrun, hrg, hlt, hgr, hsz, hen⟩
  · exact .inl h
  · have hh := Maps.has_true_of_atKey hat
    obtain ⟨es, rfl, hp⟩ := hm
    have hh2 := hh
    rw [Maps.has_eq, any_perm hp, List.any_eq_true] at hh2
    obtain ⟨q, hq, hs⟩ := hh2
    obtain ⟨p, hpL, rfl⟩ := List.mem_map.1 hq
    have hkl : kyL p.1.n = kl := WideAt.sameKey_eq hs
    subst hkl
    have hk2 := keyOf_e (max_ok (hg.ok p hpL).nm)
    have : key = kyV p.1.n := keyE.inj hkey hk2
    subst this
    have ha := mapOf_at (L := L) ⟨es, rfl, hp⟩ hg hpL (.nil)
    rw [hat] at ha
    obtain ⟨y1, y2⟩ := y
    simp only at ha
    subst ha
    obtain rfl := rE_inv hv
    exact .inr ⟨p, w', cnt', hpL, hlk, hrun, hrg, hlt, hgr, hsz, hen⟩
theorem wpList_next_e (w : World) {ops : Array Oper} {rest : List Oper} {o : Oper} {a : Act} {Q : Exit → Act → World → Prop} (hgd : o.guard = none) (it : Operand) (hop : o.op = Op.next it false) (b r n cnt : Nat) (D : DataW Nat) (left : Lit → Bool) (L : List Pr)
    (hit : a.eval it = .pointer (some ⟨r, 0, none⟩)) (h : w.ranges Tryz.prog 76 rE b r n D left cnt) (hm : MapOf D L) (hg : Good L)
    (hDone : cnt = 0 → (∀ kl, left kl = false) → wpList Tryz.prog ops Q rest (a.put o.dst (.tuple #[.bool false])) w)
    (hMore : ∀ (p : Pr) (w' : World) (cnt' : Nat), p ∈ L → left (kyL p.1.n) = true → w'.ranges Tryz.prog 76 rE b r n D (fun x => left x && !x.sameKey (kyL p.1.n)) cnt' → cnt' < cnt → w.grownBy w' (some r) → w'.heap.size = w.heap.size →
      (Instr.entry (.pointer (some ⟨r, 0, none⟩))).run Tryz.prog w' = .ok (.tuple #[kyV p.1.n, .pointer (some ⟨p.2.g, 0, none⟩)]) w' → wpList Tryz.prog ops Q rest (a.put o.dst (.tuple #[.bool true, kyV p.1.n, .pointer (some ⟨p.2.g, 0, none⟩)])) w') :
    wpList Tryz.prog ops Q (o :: rest) a w := by
  refine wpList_plain hgd fun K' hK' => ?_
  unfold Oper.wp
  rcases rg_next h hm hg o.type with ⟨h0, hl, hrun⟩ | ⟨p, w', cnt', hp, hlk, hrun, hrg, hlt, hgr, hsz, hen⟩
  · simp [execOp, hop, hit, hrun, Result.andThen]
    exact hK' _ _ (hDone h0 hl)
  · simp [execOp, hop, hit, hrun, Result.andThen]
    exact hK' _ _ (hMore p w' cnt' hp hlk hrg hlt hgr hsz hen)

end Cu
end Go.Proofs.YtnjgdfmldjgloaaGreat

/- A Cuts as it lies in memory; a range over its map. -/
namespace Go.Proofs.YtnjgdfmldjgloaaGreat
open Go.RowKit
open Pl
namespace Cu

/-- The values of a Cuts. -/
structure OB where
  gs : Nat
  hv : Value
  bv : Value
  mb : Option Nat
/-- All of a Cuts but its map. -/
structure RestAt (w : World) (o : OB) (Hs : List ByteArray) (Hb : List Bn) (L : List Pr) : Prop where
  blk : Blk w o.gs #[o.hv, o.bv, .map o.mb] 61
  hosts : w.ownsRow 0 9 1 o.hv Hs.length (tC Hs)
  hints : w.ownsRow 0 65 5 o.bv Hb.length (bC Hb)
  cuts : ∀ p ∈ L, CutAt w p.2 p.1
  sep : L.Pairwise (fun p q => ∀ k, wfoot p.2 k → ¬ wfoot q.2 k)
def OkN (n : ByteArray) : Prop := n.size ≤ 255
def OkB (b : Bn) : Prop := b.c.size ≤ 255 ∧ b.h.size ≤ 255 ∧ b.f.size ≤ 255
structure St (w : World) (o : OB) (Hs : List ByteArray) (Hb : List Bn) (L : List Pr) : Prop where
  rest : RestAt w o Hs Hb L
  at' : MapAt w o.mb L
  len : L.length ≤ 128
  hok : Hs.length ≤ 8 ∧ (∀ h ∈ Hs, h.size ≤ 255) ∧ Hb.length ≤ 8 ∧ ∀ b ∈ Hb, OkB b
def rfoot (o : OB) (L : List Pr) (k : Nat) : Prop := k = o.gs ∨ o.hv.ownBlock = some k ∨ o.bv.ownBlock = some k ∨ ∃ p ∈ L, foot p.2 k
def ofoot (o : OB) (L : List Pr) (k : Nat) : Prop := rfoot o L k ∨ o.mb = some k
/-- What is written. -/
def ww (o : OB) (L : List Pr) (k : Nat) : Prop := k = o.gs ∨ o.mb = some k ∨ ∃ p ∈ L, wfoot p.2 k
theorem ww_of {o : OB} {L : List Pr} {k : Nat} (h : ww o L k) : ofoot o L k := by
  rcases h with h | h | ⟨p, hp, h⟩
  · exact .inl (.inl h)
  · exact .inr h
  · exact .inl (.inr (.inr (.inr ⟨p, hp, .inl h⟩)))
theorem RestAt.turn {S : Nat → Prop} {w w' : World} {o : OB} {Hs : List ByteArray} {Hb : List Bn} {L : List Pr} (h : RestAt w o Hs Hb L) (ht : Turn S w w') (hs : ∀ k, rfoot o L k → ¬ S k) : RestAt w' o Hs Hb L :=
  ⟨ht.blk h.blk (hs _ (.inl rfl)), ht.row h.hosts (fun k hk => hs k (.inr (.inl hk))), ht.row h.hints (fun k hk => hs k (.inr (.inr (.inl hk)))), fun p hp => ⟨(h.cuts p hp).raw.turn ht (fun k hk => hs k (.inr (.inr (.inr ⟨p, hp, hk⟩)))), (h.cuts p hp).ok⟩, h.sep⟩
theorem RestAt.below {w w' : World} {o : OB} {Hs : List ByteArray} {Hb : List Bn} {L : List Pr} (h : RestAt w o Hs Hb L) (hb : Below w.heap.size w w') : RestAt w' o Hs Hb L := h.turn (Turn.of_below (S := fun _ => False) hb) (fun _ _ => id)
theorem RestAt.sub {w : World} {o : OB} {Hs : List ByteArray} {Hb : List Bn} {L M : List Pr} (h : RestAt w o Hs Hb L) (hs : M.Sublist L) : RestAt w o Hs Hb M :=
  ⟨h.blk, h.hosts, h.hints, fun p hp => h.cuts p (hs.subset hp), List.Pairwise.sublist hs h.sep⟩
theorem foot_cells {w : World} {b : CB} {c : Ct} {xs : List (List Int)} (h : RawAt w b c xs) {k : Nat} (hk : foot b k) : ∃ C t, Blk w k C t := by
  rcases hk with (rfl | hk | hk | ⟨v, hv, hk⟩) | hk
  · exact ⟨_, _, h.blk⟩
  · obtain ⟨cur, hc⟩ := own_cells h.held hk; exact ⟨_, _, hc⟩
  · obtain ⟨cur, hc⟩ := own_cells h.til hk; exact ⟨_, _, hc⟩
  · obtain ⟨us, ho⟩ := h.lv.mem hv
    obtain ⟨cur, hc⟩ := own_cells ho hk; exact ⟨_, _, hc⟩
  · obtain ⟨cur, hc⟩ := own_cells h.hosts hk; exact ⟨_, _, hc⟩
theorem RestAt.cells {w : World} {o : OB} {Hs : List ByteArray} {Hb : List Bn} {L : List Pr} (h : RestAt w o Hs Hb L) {k : Nat} (hk : rfoot o L k) : ∃ C t, Blk w k C t := by
  rcases hk with rfl | hk | hk | ⟨p, hp, hk⟩
  · exact ⟨_, _, h.blk⟩
  · obtain ⟨cur, hc⟩ := own_cells h.hosts hk; exact ⟨_, _, hc⟩
  · obtain ⟨cur, hc⟩ := own_cells h.hints hk; exact ⟨_, _, hc⟩
  · exact foot_cells (h.cuts p hp).raw hk
theorem RestAt.lt {w : World} {o : OB} {Hs : List ByteArray} {Hb : List Bn} {L : List Pr} (h : RestAt w o Hs Hb L) {k : Nat} (hk : rfoot o L k) : k < w.heap.size := by
  obtain ⟨C, t, hb⟩ := h.cells hk
  exact hb.lt
theorem RestAt.not_map {w : World} {o : OB} {Hs : List ByteArray} {Hb : List Bn} {L : List Pr} (h : RestAt w o Hs Hb L) {k b : Nat} (hk : rfoot o L k) {es : Array MapEntry} {clock : Nat} (hb : w.heap[b]? = some (.map es clock)) : k ≠ b := by
  intro e; subst e
  obtain ⟨C, t, h'⟩ := h.cells hk
  unfold Blk at h'
  rw [h'] at hb; cases hb
theorem St.turn {S : Nat → Prop} {w w' : World} {o : OB} {Hs : List ByteArray} {Hb : List Bn} {L : List Pr} (h : St w o Hs Hb L) (ht : Turn S w w') (hs : ∀ k, ofoot o L k → ¬ S k) : St w' o Hs Hb L :=
  ⟨h.rest.turn ht (fun k hk => hs k (.inl hk)), h.at'.turn ht (fun b e => hs b (.inr e)), h.len, h.hok⟩
theorem St.below {w w' : World} {o : OB} {Hs : List ByteArray} {Hb : List Bn} {L : List Pr} (h : St w o Hs Hb L) (hb : Below w.heap.size w w') : St w' o Hs Hb L := h.turn (Turn.of_below (S := fun _ => False) hb) (fun _ _ => id)
theorem St.lt {w : World} {o : OB} {Hs : List ByteArray} {Hb : List Bn} {L : List Pr} (h : St w o Hs Hb L) : ∀ k, ofoot o L k → k < w.heap.size := by
  rintro k (hk | e)
  · exact h.rest.lt hk
  · rcases h.at' with ⟨e', _⟩ | ⟨b, e', hh⟩
    · rw [e'] at e; cases e
    · rw [e'] at e; cases e
      obtain ⟨n, D, ho, _⟩ := hh.map
      exact ho.lt

/-- A range over the map of a Cuts, under way; the map holds M. -/
structure SWp (w0 w : World) (o : OB) (b r : Nat) (Hs : List ByteArray) (Hb : List Bn) (L M : List Pr) (left : Lit → Bool) (cnt : Nat) : Prop where
  rg : ∃ k D, w.ranges Tryz.prog 76 rE b r k D left cnt ∧ MapOf D M
  good : Good L
  rest : RestAt w o Hs Hb L
  mb : o.mb = some b
  turn : Turn (fun k => k = b) w0 w
  old : ∀ k, ofoot o L k → k < w0.heap.size
  new : w0.heap.size ≤ r
theorem SWp.below {w0 w w' : World} {o : OB} {b r : Nat} {Hs : List ByteArray} {Hb : List Bn} {L M : List Pr} {left : Lit → Bool} {cnt : Nat} (h : SWp w0 w o b r Hs Hb L M left cnt) (hb : Below w.heap.size w w') : SWp w0 w' o b r Hs Hb L M left cnt := by
  obtain ⟨k, D, hr, hm⟩ := h.rg
  exact ⟨⟨k, D, hr.kept (row := none) ⟨hb.os, hb.tape, hb.output, hb.size, fun k hk _ => hb.block k hk⟩ (by simp) (by simp), hm⟩, h.good, h.rest.below hb, h.mb, h.turn.past hb, h.old, h.new⟩
theorem SWp.moved {w0 w w' : World} {o : OB} {b r : Nat} {Hs : List ByteArray} {Hb : List Bn} {L M : List Pr} {left left' : Lit → Bool} {cnt cnt' k : Nat} {D : DataW Nat} (h : SWp w0 w o b r Hs Hb L M left cnt) (hr : w'.ranges Tryz.prog 76 rE b r k D left' cnt') (hm : MapOf D M) (hg : w.grownBy w' (some r)) : SWp w0 w' o b r Hs Hb L M left' cnt' := by
  have ht : Turn (fun k => k = r) w w' := Turn.of_grown hg (fun k e => (Option.some.inj e).symm)
  have hn := h.new
  exact ⟨⟨k, D, hr, hm⟩, h.good, h.rest.turn ht (fun k hk e => by have := h.old k (.inl hk); omega), h.mb, h.turn.trans ht (fun i hi => .inr (by omega)), h.old, h.new⟩
theorem SWp.struck {w0 w w' : World} {o : OB} {b r : Nat} {Hs : List ByteArray} {Hb : List Bn} {L M N : List Pr} {left left' : Lit → Bool} {cnt cnt' k : Nat} {D : DataW Nat} (h : SWp w0 w o b r Hs Hb L M left cnt) (hr : w'.ranges Tryz.prog 76 rE b r k D left' cnt') (hm : MapOf D N) (ht : w.mapTurned w' b) : SWp w0 w' o b r Hs Hb L N left' cnt' := by
  obtain ⟨k0, D0, hr0, _⟩ := h.rg
  obtain ⟨es, clock, hb, _⟩ := hr0.owns
  have ht2 : Turn (fun k => k = b) w w' := Turn.of_grown ht.grown (fun k e => (Option.some.inj e).symm)
  exact ⟨⟨k, D, hr, hm⟩, h.good, h.rest.turn ht2 (fun k hk e => h.rest.not_map hk hb e), h.mb, h.turn.same ht2, h.old, h.new⟩
/-- A range begins. -/
theorem sw_start {w0 w w' : World} {o : OB} {b : Nat} {Hs : List ByteArray} {Hb : List Bn} {L : List Pr} {D : DataW Nat} (h : St w0 o Hs Hb L) (hmb : o.mb = some b) (hb : Below w0.heap.size w0 w) (hm : MapOf D L) (hr : w'.ranges Tryz.prog 76 rE b w.heap.size L.length D (Maps.has D) (Maps.size D)) (hg : w.grownBy w' none) :
    SWp w0 w' o b w.heap.size Hs Hb L L (Maps.has D) (Maps.size D) := by
  have hb2 : Below w0.heap.size w0 w' := next hb (grown_below hg)
  exact ⟨⟨_, D, hr, hm⟩, h.at'.good, (h.below hb2).rest, hmb, Turn.of_below hb2, h.lt, hb.size⟩
theorem SWp.st {w0 w : World} {o : OB} {b r : Nat} {Hs : List ByteArray} {Hb : List Bn} {L M : List Pr} {left : Lit → Bool} {cnt : Nat} (h : SWp w0 w o b r Hs Hb L M left cnt) (hs : M.Sublist L) (hl : L.length ≤ 128) (hok : Hs.length ≤ 8 ∧ (∀ h ∈ Hs, h.size ≤ 255) ∧ Hb.length ≤ 8 ∧ ∀ b ∈ Hb, OkB b) : St w o Hs Hb M := by
  obtain ⟨k, D, hr, hm⟩ := h.rg
  exact ⟨h.rest.sub hs, .inr ⟨b, h.mb, ⟨k, D, hr.owns, hm⟩, h.good.sub hs⟩, Nat.le_trans hs.length_le hl, hok⟩
/-- A box of the call's own is written. -/
theorem SWp.own {w0 w w' : World} {o : OB} {b r : Nat} {Hs : List ByteArray} {Hb : List Bn} {L M : List Pr} {left : Lit → Bool} {cnt g : Nat} (h : SWp w0 w o b r Hs Hb L M left cnt) (ht : Turn (fun k => k = g) w w') (hg : w0.heap.size ≤ g) (hr : g ≠ r) : SWp w0 w' o b r Hs Hb L M left cnt := by
  obtain ⟨k, D, hrg, hm⟩ := h.rg
  have hgr : w.grownBy w' (some g) := ⟨ht.os, ht.tape, ht.output, ht.size, fun k hk hne => ht.block k hk (fun e => hne (by rw [e]))⟩
  have hbo := h.old b (.inr h.mb)
  exact ⟨⟨k, D, hrg.kept hgr (fun e => by have := Option.some.inj e; omega) (fun e => by have := Option.some.inj e; omega), hm⟩, h.good, h.rest.turn ht (fun k hk e => by have := h.old k (.inl hk); omega), h.mb, h.turn.trans ht (fun i hi => .inr (by omega)), h.old, h.new⟩
theorem SWp.look {w0 w : World} {o : OB} {b r : Nat} {Hs : List ByteArray} {Hb : List Bn} {L : List Pr} {left : Lit → Bool} {cnt : Nat} (h : SWp w0 w o b r Hs Hb L L left cnt) {n : ByteArray} (hn : n.size ≤ maxLen) :
    (Instr.lookup 59 (.map (some b)) (.agg #[.string n]) true).run Tryz.prog w = .ok (.tuple #[vL L n, .bool (bL L n)]) w := by
  obtain ⟨k, D, hr, hm⟩ := h.rg
  have : MapAt w (some b) L := .inr ⟨b, rfl, ⟨k, D, hr.owns, hm⟩, h.good⟩
  exact this.look hn
/-- When a cut's end is read. -/
theorem SWp.til {w0 w : World} {o : OB} {b r : Nat} {Hs : List ByteArray} {Hb : List Bn} {L M : List Pr} {left : Lit → Bool} {cnt : Nat} (h : SWp w0 w o b r Hs Hb L M left cnt) {p : Pr} (hp : p ∈ L) : w.cell? ⟨p.2.g, 2, none⟩ = some (.int .i64 p.1.u) := (h.rest.cuts p hp).raw.blk.cell 2

/-- What stays. -/
def keepB (n : ByteArray) (now : Int) (p : Pr) : Bool := !sameP n p && decide (now < p.1.u)
def fltL (n : ByteArray) (now : Int) (left : Lit → Bool) (L : List Pr) : List Pr := L.filter fun p => left (kyL p.1.n) || keepB n now p
def nextL (left : Lit → Bool) (p : Pr) : Lit → Bool := fun x => left x && !x.sameKey (kyL p.1.n)
theorem nextL_at {L : List Pr} (hg : Good L) {p q : Pr} (hp : p ∈ L) (hq : q ∈ L) (left : Lit → Bool) : nextL left p (kyL q.1.n) = (left (kyL q.1.n) && !sameP p.1.n q) := by
  unfold nextL
  rw [same_ky (hg.ok q hq) (max_ok (hg.ok p hp).nm)]
theorem flt_keep {L : List Pr} (hg : Good L) {p : Pr} (hp : p ∈ L) {n : ByteArray} {now : Int} {left : Lit → Bool} (hk : keepB n now p = true) : fltL n now (nextL left p) L = fltL n now left L := by
  unfold fltL
  refine List.filter_congr (fun q hq => ?_)
  rw [nextL_at hg hp hq]
  cases hs : sameP p.1.n q with
  | false => simp
  | true =>
    obtain rfl := hg.one hp hq hs
    rw [hk]; simp
theorem flt_drop {L : List Pr} (hg : Good L) {p : Pr} (hp : p ∈ L) {n : ByteArray} {now : Int} {left : Lit → Bool} (hk : keepB n now p = false) : (fltL n now left L).filter (fun q => !sameP p.1.n q) = fltL n now (nextL left p) L := by
  unfold fltL
  rw [List.filter_filter]
  refine List.filter_congr (fun q hq => ?_)
  rw [nextL_at hg hp hq]
  cases hs : sameP p.1.n q with
  | false => simp
  | true =>
    obtain rfl := hg.one hp hq hs
    rw [hk]; simp
theorem flt_end {L : List Pr} {n : ByteArray} {now : Int} {left : Lit → Bool} (h : ∀ kl, left kl = false) : fltL n now left L = L.filter (keepB n now) := by
  unfold fltL
  refine List.filter_congr (fun q _ => ?_)
  rw [h]; rfl
theorem flt_start {D : DataW Nat} {L : List Pr} (hm : MapOf D L) (hg : Good L) (n : ByteArray) (now : Int) : fltL n now (Maps.has D) L = L := by
  unfold fltL
  refine List.filter_eq_self.2 (fun q hq => ?_)
  rw [mapOf_has hm hg (max_ok (hg.ok q hq).nm), List.any_eq_true.2 ⟨q, hq, sameP_iff.2 rfl⟩]
  rfl
theorem sw_struck {w0 w w' : World} {o : OB} {b r : Nat} {Hs : List ByteArray} {Hb : List Bn} {L M N : List Pr} {left : Lit → Bool} {cnt cnt' k : Nat} {D : DataW Nat} {p : Pr} (h : SWp w0 w o b r Hs Hb L M (nextL left p) cnt) (hg : Good M) (hok : p.1.n.size ≤ maxLen) (hm : MapOf D M) (hN : M.filter (fun q => !sameP p.1.n q) = N)
    (hr : w'.ranges Tryz.prog 76 rE b r k (D.del (kyL p.1.n)) (fun z => nextL left p z && !z.sameKey (kyL p.1.n)) cnt') (ht : w.mapTurned w' b) : SWp w0 w' o b r Hs Hb L N (nextL left p) cnt' := by
  have e : (fun z => nextL left p z && !z.sameKey (kyL p.1.n)) = nextL left p := Maps.strike_twice left (kyL p.1.n)
  rw [e] at hr
  have := mapOf_del hm hg hok
  rw [hN] at this
  exact h.struck hr this ht
theorem key_eq (a b : ByteArray) (v : Bool) (h : decide (a = b) = v) (u : World) : (binOp .eql 76 (.agg #[.string a]) (.agg #[.string b])).run Tryz.prog u = .ok (.bool v) u := by
  have h1 := run_eql_struct (P := Tryz.prog) (w := u) 76 #[.string a] #[.string b]
  rw [h1]
  rw [show (10000 : Nat) = 9999 + 1 from rfl, run_equalIn_struct (P := Tryz.prog) u 9999 76 #[.string a] #[.string b] (by kernel_rfl) (by kernel_rfl)]
  go_simp
  subst h
  by_cases h2 : a = b
  · subst h2; simp
  · have h4 : ¬ a.toList = b.toList := fun e => h2 (bytes_ext (by rw [ByteArray.toList_eq, ByteArray.toList_eq] at e; exact e))
    simp [h2, h4]
/-- delete, in a region that draws its order, while the map is ranged over. -/
theorem step_del_e (w : World) {ops : Array Oper} {o : Oper} {a : Act} {K : Act → World → Prop} {Q : Exit → Act → World → Prop} {E : Prop} (hgd : o.guard = none) (m x : Operand)
    (ho : o.op = .call { callee := .builtin .delete, args := #[m, x], argTypes := #[59, 76] }) (b r n cnt : Nat) (D : DataW Nat) (left : Lit → Bool) (kn : ByteArray) (hm : a.eval m = .map (some b)) (hx : a.eval x = .agg #[.string kn])
    (h : w.ranges Tryz.prog 76 rE b r n D left cnt) (hn : kn.size ≤ maxLen)
    (hK : ∀ w' cnt', w'.ranges Tryz.prog 76 rE b r n (D.del (kyL kn)) (fun z => left z && !z.sameKey (kyL kn)) cnt' → cnt' ≤ cnt → w.mapTurned w' b → K (a.put o.dst (.tuple #[])) w') :
    if Region.wanted o (yielded ops a.tmps) = true then Oper.wp Tryz.prog o a w K Q else E := by
  have hw : Region.wanted o (yielded ops a.tmps) = true := by simp [Region.wanted, hgd]
  rw [if_pos hw]
  obtain ⟨w', cnt', hrun, r1, r2, r3⟩ := h.drop keyE Tryz.underlying59 (keyOf_e hn) o.type
  have hrun2 : (Builtin.delete_ #[59, 76] o.type #[.map (some b), .agg #[.string kn]]).run Tryz.prog w = .ok (.tuple #[]) w' := hrun
  unfold Oper.wp
  simp only [execOp, ho, resolve, invoke, builtin, Sem.run_bind, Sem.run_pure, Result.andThen_ok, List.map_toArray, List.map_cons, List.map_nil, hm, hx, hrun2]
  exact hK _ _ r1 r2 r3

end Cu
end Go.Proofs.YtnjgdfmldjgloaaGreat

/- What sweep of a Cuts does. -/
namespace Go.Proofs.YtnjgdfmldjgloaaGreat
open Go.RowKit
open Pl
namespace Cu

set_option maxRecDepth 20000 in
set_option maxHeartbeats 2000000 in
theorem sweep_any {w : World} {o : OB} {Hs : List ByteArray} {Hb : List Bn} {L : List Pr} (h : St w o Hs Hb L) (n : ByteArray) (now : Int) :
    Calls Tryz.prog 43 #[.pointer (some ⟨o.gs, 0, none⟩), .agg #[.string n], .int .i64 now] w fun e w' => e = .returned (.tuple #[]) ∧ St w' o Hs Hb (L.filter (keepB n now)) ∧ Turn (fun k => o.mb = some k) w w' := by
  have hb1 : Below w.heap.size w (w.alloc (.cells #[.string n] 76)) := lay (Below.refl _ _) _
  have hs1 := h.below hb1
  have HOK : Hid (Hs.length ≤ 8 ∧ (∀ h ∈ Hs, h.size ≤ 255) ∧ Hb.length ≤ 8 ∧ ∀ b ∈ Hb, OkB b) := h.hok
  obtain ⟨gs, hv, bv, mb⟩ := o
  simp only at h hs1 ⊢
  have c1 : (w.alloc (.cells #[.string n] 76)).cell? ⟨gs, 2, none⟩ = some (.map mb) := hs1.rest.blk.cell 2
  cases mb with
  | none =>
    have hL : L = [] := by
      rcases h.at' with ⟨_, e⟩ | ⟨b, e, _⟩
      · exact e
      · cases e
    subst hL
    have hrg := run_range_nilMap (P := Tryz.prog) (w.alloc (.cells #[.string n] 76)) 59 76 80 Tryz.underlying59
    have hnx : ∀ ty, (Instr.next (.pointer (some ⟨(w.alloc (.cells #[.string n] 76)).heap.size, 0, none⟩)) false ty).run Tryz.prog ((w.alloc (.cells #[.string n] 76)).alloc (.mapIter none 0 #[] 0)) = _ := fun ty => run_next_nilMap _ ty 0 0 #[]
    have e2 : (w.alloc (.cells #[.string n] 76)).heap.size = w.heap.size + 1 := by simp
    rw [e2] at hnx
    have HS : Hid (St ((w.alloc (.cells #[.string n] 76)).alloc (.mapIter none 0 #[] 0)) ⟨gs, hv, bv, none⟩ Hs Hb []) := h.below (lay hb1 _)
    have HT : Hid (Turn (fun k => (none : Option Nat) = some k) w ((w.alloc (.cells #[.string n] 76)).alloc (.mapIter none 0 #[] 0))) := Turn.of_below (lay hb1 _)
    clear h hs1 hb1
    go_enter Tryz.func43, Tryz.ntmps43
    go_wp2
    go_loopw [13] (fun _ wr => wr = (w.alloc (.cells #[.string n] 76)).alloc (.mapIter none 0 #[] 0)) (fun _ _ => 0)
    case atStart => exact rfl
    case round =>
      obtain rfl := hrel
      go_wp2
      go_end0
      exact ⟨rfl, HS.out, HT.out⟩
  | some b =>
    obtain ⟨hhold⟩ : Nonempty (Hold (w.alloc (.cells #[.string n] 76)) b L) := by
      rcases hs1.at' with ⟨e, _⟩ | ⟨b', e, hh⟩
      · cases e
      · cases e; exact ⟨hh⟩
    obtain ⟨D, hown, hm⟩ := hhold.own
    have hg := hhold.good
    have h3 := h.len
    have HST : Hid (∀ w', w'.ranges Tryz.prog 76 rE b (w.alloc (.cells #[.string n] 76)).heap.size L.length D (Maps.has D) (Maps.size D) → (w.alloc (.cells #[.string n] 76)).grownBy w' none → SWp w w' ⟨gs, hv, bv, some b⟩ b (w.alloc (.cells #[.string n] 76)).heap.size Hs Hb L (fltL n now (Maps.has D) L) (Maps.has D) (Maps.size D) ∧ Blk w' w.heap.size #[.string n] 76) := fun w' hr hgr => ⟨by rw [flt_start hm hg]; exact sw_start h rfl hb1 hm hr hgr, (Blk.new w _ _).below (grown_below hgr)⟩
    clear h hs1 hb1 hhold
    go_enter Tryz.func43, Tryz.ntmps43
    go_wp2_with (first
      | (at_range; refine wpList_range_own _ rfl _ 59 rfl 76 80 keyE Tryz.underlying59 rE b L.length D rfl hown ?_; intro w1 hr1 hg1 hs1; have HS1 := HST.out w1 hr1 hg1; clear hr1 hg1 hs1 HST)
      | go_in)
    go_frame
    have hrw : w.heap.size < (w.alloc (.cells #[.string n] 76)).heap.size := by simp
    generalize (w.alloc (.cells #[.string n] 76)).heap.size = r at HS1 hrw ⊢
    have HS : Hid (SWp w w1 ⟨gs, hv, bv, some b⟩ b r Hs Hb L (fltL n now (Maps.has D) L) (Maps.has D) (Maps.size D) ∧ Blk w1 w.heap.size #[.string n] 76) := HS1
    clear HS1 hown hm c1
    go_loopw [13] (fun _ wr => ∃ (left : Lit → Bool) (cnt : Nat), Hid (SWp w wr ⟨gs, hv, bv, some b⟩ b r Hs Hb L (fltL n now left L) left cnt ∧ Blk wr w.heap.size #[.string n] 76)) (fun _ wr => wr.rangeLeft b r)
    case atStart => exact ⟨_, _, HS⟩
    case round =>
      clear HS
      obtain ⟨left, cnt, HR⟩ := hrel
      obtain ⟨kk, D', hr', hm'⟩ := HR.out.1.rg
      go_wp2_with (first
        | (at_next; go_must (refine wpList_next_e _ rfl (.tmp 12) rfl b r kk cnt D' left (fltL n now left L) rfl hr' hm' (hg.sub List.filter_sublist) ?_ ?_))
        | go_in)
      · intro _ hl0
        go_wp2
        go_end0
        refine ⟨rfl, ?_, ?_⟩
        · have := HR.out.1
          rw [flt_end hl0] at this
          exact this.st List.filter_sublist h3 HOK.out
        · exact HR.out.1.turn.more (fun k e => by rw [e])
      · intro pc pb w2 cnt2 hpm hlp hr2 hlt hg2 hsz2 hen
        obtain ⟨hpL, _⟩ := List.mem_filter.1 hpm
        have HK := HR.out
        have HM : Hid (SWp w w2 ⟨gs, hv, bv, some b⟩ b r Hs Hb L (fltL n now left L) (nextL left (pc, pb)) cnt2 ∧ Blk w2 w.heap.size #[.string n] 76) := ⟨HK.1.moved hr2 hm' hg2, (Turn.of_grown (S := fun k => k = r) hg2 (fun k e => (Option.some.inj e).symm)).blk HK.2 (by omega)⟩
        have HLT : Hid (∀ c, wr.rangeLeft b r = c → c = cnt) := fun c hc => by rw [hr'.left_eq] at hc; exact hc.symm
        have hok := max_ok (hg.ok _ hpL).nm
        have HF1 : Hid (keepB n now (pc, pb) = true → fltL n now (nextL left (pc, pb)) L = fltL n now left L) := fun hkk => flt_keep hg hpL hkk
        have HF2 : Hid (keepB n now (pc, pb) = false → (fltL n now left L).filter (fun q => !sameP pc.n q) = fltL n now (nextL left (pc, pb)) L) := fun hkk => flt_drop hg hpL hkk
        have HTL : Hid (∀ U, SWp w U ⟨gs, hv, bv, some b⟩ b r Hs Hb L (fltL n now left L) (nextL left (pc, pb)) cnt2 → U.cell? ⟨pb.g, 2, none⟩ = some (.int .i64 pc.u)) := fun U hU => hU.til hpL
        clear HK hpm hlp hr2 hg2 hsz2 hpL hr' hm' HR
        unfold kyV at hen ⊢
        obtain ⟨pn, phs, pfr, pu, pbs⟩ := pc
        obtain ⟨pg, phv, psv, puv, pls⟩ := pb
        simp only at hok hen HF2 HTL ⊢
        have c0 := HM.out.2.cell 0
        simp only [List.getElem?_toArray, List.getElem?_cons_zero] at c0
        have d0 : ∀ o : Obj, (w2.alloc o).cell? ⟨w.heap.size, 0, none⟩ = some (.string n) := fun o => (HM.out.2.alloc o).cell 0
        have HW : Hid (SWp w (w2.alloc (.cells #[.string pn] 76)) ⟨gs, hv, bv, some b⟩ b r Hs Hb L (fltL n now left L) (nextL left ⟨⟨pn, phs, pfr, pu, pbs⟩, ⟨pg, phv, psv, puv, pls⟩⟩) cnt2 ∧ Blk (w2.alloc (.cells #[.string pn] 76)) w.heap.size #[.string n] 76) := ⟨HM.out.1.below (lay (Below.refl _ _) _), HM.out.2.below (lay (Below.refl _ _) _)⟩
        have e1 : (w2.alloc (.cells #[.string pn] 76)).cell? ⟨gs, 2, none⟩ = some (.map (some b)) := HW.out.1.rest.blk.cell 2
        have eu := HTL.out _ HW.out.1
        obtain ⟨k3, D3, hr3, hm3⟩ := (HW.out.1.below (Below.refl _ _).drew).rg
        cases hsame : sameP n ⟨⟨pn, phs, pfr, pu, pbs⟩, ⟨pg, phv, psv, puv, pls⟩⟩ with
        | true =>
          have hke := key_eq pn n true (by have := sameP_iff.1 hsame; simpa using this)
          have hkk : keepB n now ⟨⟨pn, phs, pfr, pu, pbs⟩, ⟨pg, phv, psv, puv, pls⟩⟩ = false := by unfold keepB; rw [hsame]; rfl
          go_wp2
          go_region_law ((refine step_del_e _ (by rfl) (.tmp 33) (.tmp 34) (by rfl) b r k3 cnt2 D3 _ pn (by rfl) (by rfl) hr3 hok ?_; intro w4 cnt4 hr4 hle4 ht4))
          all_goals (have HN := sw_struck (HW.out.1.below (Below.refl _ _).drew) (hg.sub List.filter_sublist) hok hm3 (HF2.out hkk) hr4 ht4; have HBX := (Turn.of_grown (S := fun k => k = b) ht4.grown (fun k e => (Option.some.inj e).symm)).blk (HW.out.2.below (Below.refl _ _).drew) (fun e => by have := HN.old b (.inr rfl); omega); go_wp2; exact ⟨⟨_, _, HN, HBX⟩, by rw [hr4.left_eq, HLT.out _ rfl]; omega⟩)
        | false =>
          have hke := key_eq pn n false (by cases hq : decide (pn = n) with | false => rfl | true => (rw [show sameP n ⟨⟨pn, phs, pfr, pu, pbs⟩, ⟨pg, phv, psv, puv, pls⟩⟩ = true from hq] at hsame; cases hsame))
          cases hlv : decide (now < pu) with
          | true =>
            have hkk : keepB n now ⟨⟨pn, phs, pfr, pu, pbs⟩, ⟨pg, phv, psv, puv, pls⟩⟩ = true := by unfold keepB; rw [hsame]; simpa using hlv
            have hil := fun u => isLive_any pu now u
            rw [hlv] at hil
            go_wp2_with (go_at_call 53; go_must (refine (hil _).mono ?_); rintro e w3 ⟨rfl, hw3⟩; obtain rfl := hw3.symm)
            have HN := HW.out.1
            rw [← HF1.out hkk] at HN
            have HBX := HW.out.2
            obtain ⟨k5, D5, hr5, _⟩ := HN.rg
            go_roundw
            case rel => exact ⟨_, _, HN, HBX⟩
            case measure => rw [hr5.left_eq, HLT.out _ rfl]; omega
          | false =>
            have hkk : keepB n now ⟨⟨pn, phs, pfr, pu, pbs⟩, ⟨pg, phv, psv, puv, pls⟩⟩ = false := by unfold keepB; rw [hsame]; simpa using hlv
            have hil := fun u => isLive_any pu now u
            rw [hlv] at hil
            go_wp2_with (go_at_call 53; go_must (refine (hil _).mono ?_); rintro e w3 ⟨rfl, hw3⟩; obtain rfl := hw3.symm)
            go_region_law ((refine step_del_e _ (by rfl) (.tmp 33) (.tmp 34) (by rfl) b r k3 cnt2 D3 _ pn (by rfl) (by rfl) hr3 hok ?_; intro w4 cnt4 hr4 hle4 ht4))
            all_goals (have HN := sw_struck (HW.out.1.below (Below.refl _ _).drew) (hg.sub List.filter_sublist) hok hm3 (HF2.out hkk) hr4 ht4; have HBX := (Turn.of_grown (S := fun k => k = b) ht4.grown (fun k e => (Option.some.inj e).symm)).blk (HW.out.2.below (Below.refl _ _).drew) (fun e => by have := HN.old b (.inr rfl); omega); go_wp2; exact ⟨⟨_, _, HN, HBX⟩, by rw [hr4.left_eq, HLT.out _ rfl]; omega⟩)

end Cu
end Go.Proofs.YtnjgdfmldjgloaaGreat
