/- Due of a Table: the walk. -/
import Derived.Test.YtbldoplemfjcjaaOuO
namespace Go.Proofs.Ytbldoplemfjcjaa
open Go.RowKit
open Pl
namespace Ou

set_option maxRecDepth 20000 in
set_option maxHeartbeats 4000000 in
theorem due_any {w : World} {gs most added b : Nat} {L : List Gr} {T : List Tn} (h : St w gs most added b L T) (hfar : ∀ t ∈ T, Far t.x) (now : Int) :
    Calls Try.prog 16 #[.pointer (some ⟨gs, 0, none⟩), .int .i64 now] w fun e w' => ∃ v L', e = .returned v ∧ w'.ownsRow w.heap.size 35 8 v (T.filter (dueB now)).length (aF ((T.filter (dueB now)).map (·.x))) ∧ St w' gs most added b L' (restT now T) ∧ Turn (foot gs b L) w w' ∧ (∀ k, foot gs b L' k → foot gs b L k ∨ w.heap.size ≤ k) := by
  obtain ⟨i0, hi, hz0, hz1, hz2⟩ := info_parts infoT
  have h16 : T.length ≤ 16 := by have := h.m2; have := h.len; omega
  have HOK : Hid (∀ t ∈ T, OkA t.x) := h.hold.good.ok
  have HFAR : Hid (∀ t ∈ T, Far t.x) := hfar
  have HST : Hid (St w gs most added b L T) := h
  have HLT : Hid (∀ k, foot gs b L k → k < w.heap.size) := h.footlt
  have H16 : Hid (T.length ≤ 16) := h16
  have c2 := h.blk.cell 2
  simp only [List.getElem?_toArray, List.getElem?_cons_succ, List.getElem?_cons_zero] at c2
  obtain ⟨D, hown, hm⟩ := h.hold.own
  clear h hfar h16
  go_enter Try.func16, Try.ntmps16
  go_wp2_with (first
    | (at_range; refine wpList_range_own _ rfl _ 59 rfl 67 70 keyE Try.underlying59 rE b L.length D rfl hown ?_; intro w3 hr3 hg3 hs3)
    | go_in)
  go_frame
  have HS : Hid (DL w w3 gs most added b w.heap.size L L T now (Maps.has D) (Maps.size D) (.slice none 0 0) 0 []) := by
    have hs := HST.out
    have hfew := good_few hs.hold.good
    have hl := H16.out
    have hrg := rg_start hs hm (by omega) hr3 hg3
    refine ⟨?_, World.ownsRow_nil _ _ _ _, by rw [done_start hm hs.hold.good]; exact List.Perm.refl _, rfl, Turn.of_below (grown_below hg3), fun k hk => .inl hk, fun k hk => by simp [Value.ownBlock] at hk⟩
    rw [left_start hm hs.hold.good now]
    exact hrg
  obtain ⟨r, hr⟩ : ∃ r, r = w.heap.size := ⟨_, rfl⟩
  have HRW : Hid (w.heap.size ≤ r) := Nat.le_of_eq hr.symm
  rw [← hr] at HS ⊢
  clear hown hm hr3 hg3 hs3 c2 hr
  go_loopw [5] (fun v wr => ∃ (left : Lit → Bool) (cnt m : Nat) (xs : List Tn) (y : Option Addr) (c : Nat) (L1 : List Gr), v = .slice y m c ∧ m ≤ 16 ∧ Hid (DL w wr gs most added b r L L1 T now left cnt (.slice y m c) m xs)) (fun _ wr => wr.rangeLeft b r)
  case atStart => exact ⟨_, _, 0, [], _, _, _, rfl, by omega, HS⟩
  case round =>
    clear HS
    obtain ⟨left, cnt, m, xs, y, c, L1, rfl, hm16, HR1⟩ := hrel
    obtain ⟨kk, D', hr', hm', hk'⟩ := HR1.out.rg.rg
    have hgd := HR1.out.rg.st.hold.good
    go_wp2_with (first
      | (at_next; go_must (refine wpList_next_e _ rfl (.tmp 16) rfl b r kk cnt D' left L1 _ rfl hr' hm' hgd ?_ ?_))
      | go_in)
    · intro _ hl0
      have HE : Hid (St wr gs most added b L1 (restT now T) ∧ wr.ownsRow w.heap.size 73 9 (.slice y m c) m (tF xs) ∧ xs.Perm (T.filter (dueB now)) ∧ m = (T.filter (dueB now)).length ∧ Turn (foot gs b L) w wr ∧ (∀ k, foot gs b L1 k → foot gs b L k ∨ w.heap.size ≤ k) ∧ (∀ k, (Value.slice y m c).ownBlock = some k → ¬ foot gs b L1 k)) := by
        have hd := HR1.out
        have hp := hd.perm
        have hst := hd.rg.st
        rw [done_all hl0] at hp
        rw [left_end hl0] at hst
        exact ⟨hst, hd.own, hp, by rw [hd.len, hp.length_eq], hd.turn, hd.foot', hd.apart⟩
      have htold := told_any (HST.out.rise.sub List.filter_sublist) HE.out.2.2.1 (by have h1 := List.length_filter_le (dueB now) T; have := H16.out; omega) w.heap.size (.slice y m c) m HE.out.2.2.2.1 wr HE.out.2.1 (fun t ht => HFAR.out t (List.mem_filter.1 ht).1)
      clear hr' hm' hgd HR1
      go_wp2_with (go_at_call 33; go_must (refine htold.mono ?_); rintro e w4 ⟨v, rfl, own4, turn4⟩)
      go_ret
      obtain ⟨h1, h2, h3, h4, h5, h6, h7⟩ := HE.out
      refine ⟨_, L1, rfl, ?_, h1.turn turn4 (fun k hk e => h7 k e hk), h5.trans turn4 (fun i e => .inr (h2.lt i e).1), h6⟩
      rw [← h4]
      exact own_base own4 h5.size
    · intro g w4 cnt2 hgL hlg hr2 hlt hg2 hsz2 hen
      have hrg2 := HR1.out.rg.moved hr' hr2 hm' hk' hg2
      have hrow := hrg2.st.hold.row g hgL
      obtain ⟨y2, c2, hv⟩ := row_shape hrow
      have hgk := hgd.key hgL
      have hx := (hgd.grp g hgL).1
      obtain ⟨hf1, hf2, hf3, hf4⟩ := left_next HOK.out hgk hlg now hx
      obtain ⟨q, hq⟩ : ∃ q, q = g.xs.length := ⟨_, rfl⟩
      rw [← hq] at hv
      obtain ⟨k, hkk⟩ : ∃ k, k = g.k := ⟨_, rfl⟩
      rw [← hkk] at hen
      have hqs : q ≤ 16 := by
        have h1 : g.xs.length ≤ (leftT left now T).length := by rw [hx]; exact List.length_filter_le _ _
        have h2 : (leftT left now T).length ≤ T.length := List.length_filter_le _ _
        have := H16.out
        omega
      have hmq : m + (g.xs.filter (dueB now)).length ≤ 16 := by
        have h1 := hf4.length_eq
        rw [List.length_append, ← HR1.out.perm.length_eq, ← HR1.out.len] at h1
        have h2 : ((doneT (nextL left g) T).filter (dueB now)).length ≤ (doneT (nextL left g) T).length := List.length_filter_le _ _
        have h3 : (doneT (nextL left g) T).length ≤ T.length := List.length_filter_le _ _
        have := H16.out
        omega
      have W4 : w4.heap.size = w4.heap.size := rfl
      have hb5 : Below w4.heap.size w4 (w4.alloc (.cells #[.int .i64 k.1, .int .i64 k.2.1, .string k.2.2.1, .int .i64 k.2.2.2.1, .int .i64 k.2.2.2.2] 67)) := lay (Below.refl _ _) _
      have k5 := Blk.new w4 #[.int .i64 k.1, .int .i64 k.2.1, .string k.2.2.1, .int .i64 k.2.2.2.1, .int .i64 k.2.2.2.2] 67
      have hrw := Row.of_own (own_past hrow hb5)
      rw [hv, ← hq] at hrw
      have hsplit := split_any (.slice y2 q c2) g.xs q now (w4.alloc (.cells #[.int .i64 k.1, .int .i64 k.2.1, .string k.2.2.1, .int .i64 k.2.2.2.1, .int .i64 k.2.2.2.2] 67)) hq hrw (by omega)
      obtain ⟨nd, hnd⟩ : ∃ nd, nd = (g.xs.filter (dueB now)).length := ⟨_, rfl⟩
      obtain ⟨nr, hnr⟩ : ∃ nr, nr = (g.xs.filter fun t => !dueB now t).length := ⟨_, rfl⟩
      rw [← hnd] at hsplit hmq
      rw [← hnr] at hsplit
      have HND : Hid (nd = (g.xs.filter (dueB now)).length) := hnd
      have HNR : Hid (nr = (g.xs.filter fun t => !dueB now t).length) := hnr
      have HG : Hid (k = g.k ∧ OkK g.k ∧ g ∈ L1 ∧ left (kyL g.k) = true) := ⟨hkk, hgk, hgL, hlg⟩
      have HF : Hid ((g.xs.filter fun t => !dueB now t) = (leftT (nextL left g) now T).filter (mt g.k) ∧ (leftT (nextL left g) now T).Sublist (leftT left now T) ∧ (∀ l, l ≠ g.k → (leftT (nextL left g) now T).filter (mt l) = (leftT left now T).filter (mt l))) := ⟨hf1, hf2, hf3⟩
      have HRG4 : Hid (Rg w4 gs most added b r L1 (leftT left now T) (nextL left g) cnt2 ∧ wr.grownBy w4 (some r)) := ⟨hrg2, hg2⟩
      have HLT2 : Hid (wr.rangeLeft b r = cnt ∧ cnt2 < cnt) := ⟨hr'.left_eq, hlt⟩
      have hown4 : w4.ownsRow w.heap.size 73 9 (.slice y m c) m (tF xs) ∧ w.heap.size ≤ w4.heap.size := by
        obtain ⟨s, seen, cc, hit⟩ := rg_iter HR1.out.rg
        have ht := Turn.of_grown (S := fun k => k = r) hg2 (fun k e => (Option.some.inj e).symm)
        exact ⟨ht.row HR1.out.own (fun k hk e => row_iter HR1.out.own hit k hk e), Nat.le_trans HR1.out.turn.size ht.size⟩
      have HOWN4 : Hid (w4.ownsRow w.heap.size 73 9 (.slice y m c) m (tF xs) ∧ w.heap.size ≤ w4.heap.size) := hown4
      have HAP : Hid (∀ k, foot gs b L1 k → (Value.slice y m c).ownBlock ≠ some k) := fun k hk e => HR1.out.apart k e hk
      have HIT : Hid ((Value.slice y m c).ownBlock ≠ some r) := by
        obtain ⟨s, seen, cc, hit⟩ := rg_iter HR1.out.rg
        exact fun e => row_iter HR1.out.own hit r e rfl
      have hz4 : (w4.alloc (.cells #[.int .i64 k.1, .int .i64 k.2.1, .string k.2.2.1, .int .i64 k.2.2.2.1, .int .i64 k.2.2.2.2] 67)).heap.size = w4.heap.size + 1 := by simp
      have HKP : Hid (∀ (w5 w6 : World) (y6 : Option Addr) (c6 : Nat), Below w4.heap.size w4 w5 → w5.grownBy w6 (Value.slice y m c).ownBlock → w5.ownsRow (w4.alloc (.cells #[.int .i64 k.1, .int .i64 k.2.1, .string k.2.2.1, .int .i64 k.2.2.2.1, .int .i64 k.2.2.2.2] 67)).heap.size 73 9 (.slice y6 nr c6) nr (tF (g.xs.filter fun t => !dueB now t)) →
          Calls Try.prog 30 #[.pointer (some ⟨gs, 0, none⟩), .agg #[.int .i64 k.1, .int .i64 k.2.1, .string k.2.2.1, .int .i64 k.2.2.2.1, .int .i64 k.2.2.2.2], .slice y6 nr c6] w6 fun e w' => ∃ L', e = .returned (.tuple #[]) ∧ St w' gs most added b L' (leftT (nextL left g) now T) ∧ Turn (fun i => i = b) w6 w' ∧ (∀ i, foot gs b L' i → foot gs b L1 i ∨ w6.heap.size ≤ i) ∧ Kept w6 w' b L1 L' g.k) := by
        intro w5 w6 y6 c6 hb5 hg6 ho
        have hs6 := ((HRG4.out.1.below hb5).grown hg6 HAP.out HIT.out).st
        have hr6 : Row w6 (.slice y6 nr c6) nr (tF (g.xs.filter fun t => !dueB now t)) := Row.of_own ((Turn.of_grown (S := fun k => (Value.slice y m c).ownBlock = some k) hg6 (fun _ e => e)).row ho (fun k hk e => by
          have h1 := (ho.lt k hk).1
          have h2 := (HOWN4.out.1.lt k e).2
          omega))
        have := keep_any hs6 HG.out.2.1 HNR.out hr6 HF.out.1 HF.out.2.1 HF.out.2.2 ⟨g, HG.out.2.2.1, rfl⟩
        rw [show kyV g.k = .agg #[.int .i64 k.1, .int .i64 k.2.1, .string k.2.2.1, .int .i64 k.2.2.2.1, .int .i64 k.2.2.2.2] from by rw [HG.out.1]; rfl] at this
        exact this
      rw [hv] at hen
      unfold kyV kyC at hen
      clear hrow hx hf1 hf2 hf3 hf4 hq hkk hr2 hg2 hsz2 hr' hm' hgd hv hgL hlg hlt hrg2 W4 hrw hnd hnr hgk hown4
      go_wp2_with (first
        | (go_at_call 32; go_must (refine hsplit.mono ?_); rintro e w5 ⟨d, rr, rfl, own5d, own5r, bel5⟩; obtain ⟨y5, c5, rfl⟩ := row_shape own5d; obtain ⟨y6, c6, rfl⟩ := row_shape own5r; have B5 := next hb5 bel5; have own5v := own_past HOWN4.out.1 B5; have hrow5 := Row.of_own own5d; have hd1 := tF_len (g.xs.filter (dueB now)); rw [← HND.out] at hd1; have hbs5 := Nat.le_trans HOWN4.out.2 B5.size)
        | (at_builtin; refine wpList_appG _ rfl (.tmp 28) (.tmp 29) 70 73 i0 _ 9 96 Try.underlying70 hi hz0 hz1 hz2 rfl (by decide) rfl w.heap.size (.slice y m c) m (tF xs) rfl own5v (.slice y5 nd c5) nd (tF (g.xs.filter (dueB now))) rfl hrow5 hd1 (tF_one _) (by omega) (by unfold maxLen; omega) hbs5 ?_; intro v6 w6 h61 h63 h64; obtain ⟨y7, c7, rfl⟩ := row_shape h61; have k6 := (k5.below bel5).grown h63 (fun e => by have := (HOWN4.out.1.lt _ e.symm).2; omega); have x0 := k6.cell 0; have x1 := k6.cell 1; have x2 := k6.cell 2; have x3 := k6.cell 3; have x4 := k6.cell 4; simp only [List.getElem?_toArray, List.getElem?_cons_succ, List.getElem?_cons_zero] at x0 x1 x2 x3 x4; have hkeep := HKP.out w5 w6 y6 c6 B5 h63 own5r)
        | (go_at_call 30; go_must (refine hkeep.mono ?_); rintro e w7 ⟨L', rfl, hs7, ht7, hf7, hk7⟩)
        | go_in)
      have HDL := HR1.out.step HOK.out HLT.out HRW.out HG.out.2.2.1 HG.out.2.1 HG.out.2.2.2 HRG4.out.1 HRG4.out.2 B5 h61 h63 h64 HND.out hs7 ht7 hf7 hk7
      obtain ⟨cnt3, hc3, hdl⟩ := HDL
      have HD : Hid (DL w w7 gs most added b r L L' T now (nextL left g) cnt3 (.slice y7 (m + nd) c7) (m + nd) (xs ++ g.xs.filter (dueB now))) := hdl
      have HC3 : Hid (cnt3 < cnt) := Nat.lt_of_le_of_lt hc3 HLT2.out.2
      clear hdl hc3 hs7 ht7 hf7 hk7 h61 h63 h64 own5d own5r own5v bel5 B5 hrow5 hd1 hbs5 hkeep k6 x0 x1 x2 x3 x4 HR1
      go_roundw
      case rel => exact ⟨_, _, m + nd, _, y7, c7, L', rfl, hmq, HD⟩
      case measure =>
        obtain ⟨k7, D7, hr7, _⟩ := HD.out.rg.rg
        rw [HLT2.out.1, hr7.left_eq]
        exact HC3.out

end Ou
end Go.Proofs.Ytbldoplemfjcjaa
