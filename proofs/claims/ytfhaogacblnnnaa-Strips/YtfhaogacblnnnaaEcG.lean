/- What the document's Strip gives. -/
import Derived.Test.YtfhaogacblnnnaaEcE
namespace Go.Proofs.Ytfhaogacblnnnaa
open Go.RowKit

theorem SL.grown {w0 w w' : World} {C0 C1 : Array Value} {r v' : Value} {l l' : List On} (h : SL w0 w C0 C1 r l) (hg : w.grownBy w' r.ownBlock) (ho : w'.ownsRow (w0.heap.size + 2) 33 2 v' l'.length (oC l')) : SL w0 w' C0 C1 v' l' :=
  ⟨ho, h.box.grown hg (own_sep h.own h.box (by decide)), h.res.grown hg (own_sep h.own h.res (by decide)), h.below.grown hg h.below.size (fun k e => by have := (h.own.lt k e).1; omega)⟩

set_option maxRecDepth 20000 in
set_option maxHeartbeats 1000000 in
theorem refStrip_any (o : Ot) (v : Value) (w : World) (h : Row w v o.os.length (oC o.os)) (hm : o.os.length ≤ maxLen) (hn : o.os.length * 24 ≤ far) :
    Calls Try.prog 8 #[.agg (optC o v)] w fun e w' => ∃ (y : Option Addr) (m cap : Nat), e = .returned (.agg (optC o (.slice y m cap))) ∧ w'.ownsRow w.heap.size 33 2 (.slice y m cap) (flt o.os).length (oC (flt o.os)) ∧ Below w.heap.size w w' := by
  obtain ⟨i0, hi, hz0, hz1, hz2⟩ := info_parts infoO
  obtain ⟨s, ee, vv, b, z, os⟩ := o
  simp only at h hm hn ⊢
  obtain ⟨x, c, hv⟩ := row_slice h
  obtain ⟨n, hN⟩ : ∃ N, N = os.length := ⟨_, rfl⟩
  rw [← hN] at hv
  subst hv
  have hb : Below w.heap.size w ((w.alloc (.cells #[.int .i64 s, .int .i64 ee, .int .i64 vv, .bool b, .int .i64 z, .slice x n c] 24)).alloc (.cells #[.int .i64 0, .int .i64 0, .int .i64 0, .bool false, .int .i64 0, .slice none 0 0] 24)) := lay (lay (Below.refl _ _) _) _
  have k0 := (Blk.new w #[.int .i64 s, .int .i64 ee, .int .i64 vv, .bool b, .int .i64 z, .slice x n c] 24).alloc (.cells #[.int .i64 0, .int .i64 0, .int .i64 0, .bool false, .int .i64 0, .slice none 0 0] 24)
  have k1 := Blk.new (w.alloc (.cells #[.int .i64 s, .int .i64 ee, .int .i64 vv, .bool b, .int .i64 z, .slice x n c] 24)) #[.int .i64 0, .int .i64 0, .int .i64 0, .bool false, .int .i64 0, .slice none 0 0] 24
  rw [World.size_alloc] at k1
  have HS : Hid (SL w ((w.alloc (.cells #[.int .i64 s, .int .i64 ee, .int .i64 vv, .bool b, .int .i64 z, .slice x n c] 24)).alloc (.cells #[.int .i64 0, .int .i64 0, .int .i64 0, .bool false, .int .i64 0, .slice none 0 0] 24)) #[.int .i64 s, .int .i64 ee, .int .i64 vv, .bool b, .int .i64 z, .slice x n c] #[.int .i64 0, .int .i64 0, .int .i64 0, .bool false, .int .i64 0, .slice none 0 0] (.slice none 0 0) []) := ⟨World.ownsRow_nil _ _ _ _, k0, k1, hb⟩
  have HR : Hid (Row w (.slice x n c) os.length (oC os)) := h
  have hmx : n ≤ maxLen := by rw [hN]; exact hm
  have hnx : n * 24 ≤ far := by rw [hN]; exact hn
  unfold maxLen at hmx
  unfold far at hnx
  have HN : Hid (n = os.length) := hN
  clear h hm hn hN hb k0 k1
  unfold optC
  simp only
  go_enter Try.func8, Try.ntmps8
  go_wp2
  go_loopw [3, 4] (fun ov iv wr => ∃ (y : Option Addr) (m cap j : Nat), ov = .slice y m cap ∧ m ≤ j ∧ j ≤ n ∧ iv = .int .i64 (j : Int) ∧ Hid (m = (flt (os.take j)).length) ∧ Hid (SL w wr #[.int .i64 s, .int .i64 ee, .int .i64 vv, .bool b, .int .i64 z, .slice x n c] #[.int .i64 0, .int .i64 0, .int .i64 0, .bool false, .int .i64 0, .slice none 0 0] (.slice y m cap) (flt (os.take j)))) (fun _ i _ => n - (intOf i).toNat)
  case atStart => exact ⟨none, 0, 0, 0, rfl, Nat.zero_le _, Nat.zero_le _, rfl, rfl, HS⟩
  case round =>
    clear HS
    obtain ⟨y, m, cap, j, rfl, hmj, hjn, rfl, HM, HS⟩ := hrel
    by_cases hj : j < n
    · have hjm : j < os.length := by have := HN.out; omega
      have hj' : (j : Int) < (n : Int) := by omega
      have d5 := HS.out.box.cell 5
      simp only [List.getElem?_toArray, List.getElem?_cons_succ, List.getElem?_cons_zero] at d5
      obtain ⟨g', o', cap', hx, hc⟩ := row_at (HR.out.below HS.out.below) (by omega)
      simp only [Value.slice.injEq] at hx
      obtain ⟨rfl, -, rfl⟩ := hx
      obtain ⟨e0, e1⟩ := o_cells hc hjm
      clear hc
      cases he : ec os[j] with
      | true =>
        have HK : Hid (m = (flt (os.take (j + 1))).length) := by unfold Hid; rw [flt_yes hjm he]; exact HM.out
        have HS2 : Hid (SL w wr #[.int .i64 s, .int .i64 ee, .int .i64 vv, .bool b, .int .i64 z, .slice (some ⟨g', o', none⟩) n c] #[.int .i64 0, .int .i64 0, .int .i64 0, .bool false, .int .i64 0, .slice none 0 0] (.slice y m cap) (flt (os.take (j + 1)))) := by unfold Hid; rw [flt_yes hjm he]; exact HS.out
        have hq : (os[j].c != 8) = false := by unfold ec at he; rw [bne, he]; rfl
        obtain ⟨qc, hqc⟩ : ∃ q, q = os[j].c := ⟨_, rfl⟩
        rw [← hqc] at hq e0
        clear he hqc e1 HS
        go_wp2
        go_roundw
        case rel => exact ⟨y, m, cap, j + 1, rfl, by omega, by omega, by go_num, HK, HS2⟩
        case measure => simp [intOf]; omega
      | false =>
        have HE : Hid (flt (os.take (j + 1)) = flt (os.take j) ++ [os[j]]) := flt_no hjm he
        have hq : (os[j].c != 8) = true := by unfold ec at he; rw [bne, he]; rfl
        have hrow := Row.of_blk (Blk.new wr (oV os[j]).toArray 33) (xs := oC [os[j]]) (by simp [oC]) 1 1
        obtain ⟨q, hqq⟩ : ∃ q, q = os[j] := ⟨_, rfl⟩
        rw [← hqq] at hq e0 e1 hrow
        have HQ : Hid (q = os[j]) := hqq
        obtain ⟨qc, qd⟩ := q
        simp only [oV] at hq e0 e1 hrow
        clear he hqq
        have hown : Hid (wr.ownsRow (w.heap.size + 2) 33 2 (.slice y m cap) m (oC (flt (os.take j)))) := by unfold Hid; have h1 := HS.out.own; rw [← HM.out] at h1; exact h1
        have hsz : w.heap.size + 2 ≤ (wr.alloc (.cells #[.int .i64 qc, .string qd] 33)).heap.size := by have h1 := HS.out.res.lt; rw [World.size_alloc]; omega
        go_wp2_with (at_builtin; refine wpList_appG _ rfl (.tmp 19) (.tmp 25) 22 33 i0 _ 2 24 Try.underlying22 hi hz0 hz1 hz2 rfl (by decide) rfl (w.heap.size + 2) _ m (oC (flt (os.take j))) rfl (hown.out.alloc _) (.slice (some ⟨wr.heap.size, 0, none⟩) 1 1) 1 (oC [⟨qc, qd⟩]) rfl hrow rfl (oC_one _) (by omega) (by unfold maxLen; omega) hsz ?_; intro v2 w2 h1 h3 _; obtain ⟨y2, cap2, hv2⟩ := row_shape h1; subst hv2; have HS2 : Hid (SL w w2 #[.int .i64 s, .int .i64 ee, .int .i64 vv, .bool b, .int .i64 z, .slice (some ⟨g', o', none⟩) n c] #[.int .i64 0, .int .i64 0, .int .i64 0, .bool false, .int .i64 0, .slice none 0 0] (.slice y2 (m + 1) cap2) (flt (os.take (j + 1)))) := (by refine (HS.out.past (lay (Below.refl _ _) _)).grown h3 ?_; rw [HE.out, oC_app, List.length_append, ← HM.out, ← HQ.out]; exact h1); clear h1 h3)
        go_roundw
        case rel => exact ⟨y2, m + 1, cap2, j + 1, rfl, by omega, by omega, by go_num, by unfold Hid; rw [HE.out, List.length_append, ← HM.out]; rfl, HS2⟩
        case measure => simp [intOf]; omega
    · have hjn' : decide (j < n) = false := by simpa using hj
      have HE : Hid (flt (os.take j) = flt os) := by unfold Hid; rw [List.take_of_length_le (by have := HN.out; omega)]
      have d5 := HS.out.box.cell 5
      simp only [List.getElem?_toArray, List.getElem?_cons_succ, List.getElem?_cons_zero] at d5
      have kA := HS.out.box.set 5 (.slice y m cap)
      have kB := HS.out.res.other (b := w.heap.size) (by omega) 5 (.slice y m cap)
      obtain ⟨a0, a1, a2, a3, a4, a5⟩ := HS.out.box.six'
      have a6 := HS.out.box.frozen 5
      obtain ⟨c0, c1, c2, c3, c4, c5⟩ := kA.six'
      obtain ⟨d0, d1, d2, d3, d4, d5⟩ := kB.six'
      obtain ⟨f0, f1, f2, f3, f4, f5⟩ := kB.open6
      have hb2 : Below w.heap.size w (wr.setCell ⟨w.heap.size, 5, none⟩ (.slice y m cap)) := HS.out.below.setCell (Nat.le_refl _) _
      have q := set6_blk (o := ⟨s, ee, vv, b, z, os⟩) (v := .slice y m cap) (o' := otZ) (v' := .slice none 0 0) kB
      have qt := set6_turn (wr.setCell ⟨w.heap.size, 5, none⟩ (.slice y m cap)) (w.heap.size + 1) ⟨s, ee, vv, b, z, os⟩ (.slice y m cap)
      have qb := set6_below hb2 (g := w.heap.size + 1) (Nat.le_succ _) hb2.size ⟨s, ee, vv, b, z, os⟩ (.slice y m cap)
      have ho : (wr.setCell ⟨w.heap.size, 5, none⟩ (.slice y m cap)).ownsRow (w.heap.size + 2) 33 2 (.slice y m cap) (flt (os.take j)).length (oC (flt (os.take j))) := Turn.row (S := fun k => k = w.heap.size) (Turn.of_set (S := fun k => k = w.heap.size) wr (p := ⟨w.heap.size, 5, none⟩) rfl _) HS.out.own (fun k hk e => by have := (HS.out.own.lt k hk).1; omega)
      have qo := own_base (B' := w.heap.size) (qt.row ho (fun k hk e => by have := (ho.lt k hk).1; omega)) (by omega)
      clear kA kB hb2 qt ho
      have HQ : Hid (Blk (set6 (wr.setCell ⟨w.heap.size, 5, none⟩ (.slice y m cap)) (w.heap.size + 1) ⟨s, ee, vv, b, z, os⟩ (.slice y m cap)) (w.heap.size + 1) (optC ⟨s, ee, vv, b, z, os⟩ (.slice y m cap)) 24 ∧ (set6 (wr.setCell ⟨w.heap.size, 5, none⟩ (.slice y m cap)) (w.heap.size + 1) ⟨s, ee, vv, b, z, os⟩ (.slice y m cap)).ownsRow w.heap.size 33 2 (.slice y m cap) (flt (os.take j)).length (oC (flt (os.take j))) ∧ Below w.heap.size w (set6 (wr.setCell ⟨w.heap.size, 5, none⟩ (.slice y m cap)) (w.heap.size + 1) ⟨s, ee, vv, b, z, os⟩ (.slice y m cap))) := ⟨q, qo, qb⟩
      clear q qo qb
      go_wp2
      change bodyPost Try.prog Try.f8 _ _ _ (set6 (wr.setCell ⟨w.heap.size, 5, none⟩ (.slice y m cap)) (w.heap.size + 1) ⟨s, ee, vv, b, z, os⟩ (.slice y m cap))
      revert HQ
      generalize set6 (wr.setCell ⟨w.heap.size, 5, none⟩ (.slice y m cap)) (w.heap.size + 1) ⟨s, ee, vv, b, z, os⟩ (.slice y m cap) = W
      intro HQ
      obtain ⟨q, qo, qb⟩ := HQ.out
      obtain ⟨q0, q1, q2, q3, q4, q5⟩ := q.six
      refine bodyPost_ret (v := .agg (optC ⟨s, ee, vv, b, z, os⟩ (.slice y m cap))) (by simp [results, Try.results8, go_sem, q0, q1, q2, q3, q4, q5, optC]) rfl ?_
      rw [HE.out] at qo
      exact ⟨_, _, _, rfl, qo, qb⟩

end Go.Proofs.Ytfhaogacblnnnaa
