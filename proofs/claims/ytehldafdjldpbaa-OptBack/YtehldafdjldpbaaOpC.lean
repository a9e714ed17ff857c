/- What split, mayOptions, putOptions and getOptions of package opt give. -/
import Derived.Test.YtehldafdjldpbaaOpB
namespace Go.Proofs.Ytehldafdjldpbaa
open Go.RowKit

set_option maxRecDepth 20000 in
theorem split_any (W : Int) (w : World) (hW : 0 ≤ W ∧ W < 4294967296) :
    Calls Try.prog 30 #[.int .u32 W] w fun e w' => e = .returned (.agg (optC ⟨0, W / 16777216, W / 65536 % 256, W / 32768 % 2 == 1, W % 32768, []⟩ (.slice none 0 0))) ∧ Below w.heap.size w w' := by
  obtain ⟨E, hE⟩ : ∃ x, W / 16777216 % 256 = x := ⟨_, rfl⟩
  have hE' : W / 16777216 = E := by omega
  obtain ⟨V, hV⟩ : ∃ x, W / 65536 % 256 = x := ⟨_, rfl⟩
  obtain ⟨D, hD⟩ : ∃ x, W / 32768 % 2 = x := ⟨_, rfl⟩
  obtain ⟨Z, hZ⟩ : ∃ x, W % 32768 = x := ⟨_, rfl⟩
  have k1 := fun u => field_as W E 24 8 u hW (.inl ⟨rfl, rfl, hE⟩)
  have k2 := fun u => field_as W V 16 8 u hW (.inr (.inl ⟨rfl, rfl, hV⟩))
  have k3 := fun u => field_as W D 15 1 u hW (.inr (.inr (.inl ⟨rfl, rfl, hD⟩)))
  have k4 := fun u => field_as W Z 0 15 u hW (.inr (.inr (.inr (.inl ⟨rfl, rfl, by rw [Int.ediv_one]; exact hZ⟩))))
  rw [hE', hV, hD, hZ]
  obtain ⟨b, hb⟩ : ∃ b, (D == 1) = b := ⟨_, rfl⟩
  have HB : Hid ((D == 1) = b) := hb
  clear hE hE' hV hD hZ hW
  go_enter Try.func30, Try.ntmps30
  go_wp2_with (first
    | (go_at_call_of 37 (#[Value.int IntKind.u32 W, Value.int IntKind.u64 24, Value.int IntKind.u64 8]); go_must (refine (k1 _).mono ?_); rintro e w' ⟨rfl, hw⟩; obtain rfl := hw.symm)
    | (go_at_call_of 37 (#[Value.int IntKind.u32 W, Value.int IntKind.u64 16, Value.int IntKind.u64 8]); go_must (refine (k2 _).mono ?_); rintro e w' ⟨rfl, hw⟩; obtain rfl := hw.symm)
    | (go_at_call_of 37 (#[Value.int IntKind.u32 W, Value.int IntKind.u64 15, Value.int IntKind.u64 1]); go_must (refine (k3 _).mono ?_); rintro e w' ⟨rfl, hw⟩; obtain rfl := hw.symm)
    | (go_at_call_of 37 (#[Value.int IntKind.u32 W, Value.int IntKind.u64 0, Value.int IntKind.u64 15]); go_must (refine (k4 _).mono ?_); rintro e w' ⟨rfl, hw⟩; obtain rfl := hw.symm))
  have q := Blk.new w (optC ⟨0, E, V, b, Z, []⟩ (.slice none 0 0)) 24
  have qb : Below w.heap.size w (w.alloc (.cells (optC ⟨0, E, V, b, Z, []⟩ (.slice none 0 0)) 24)) := lay (Below.refl _ _) _
  obtain ⟨q0, q1, q2, q3, q4, q5⟩ := q.six
  unfold optC at q0 q1 q2 q3 q4 q5 qb
  refine bodyPost_ret (v := .agg (optC ⟨0, E, V, b, Z, []⟩ (.slice none 0 0))) (by simp [results, Try.results30, go_sem, q0, q1, q2, q3, q4, q5, optC]) rfl ⟨by rw [HB.out], qb⟩

set_option maxRecDepth 20000 in
theorem mayOptions_any (v : Value) (os : List On) (w : World) (hr : ORow w v os) :
    Calls Try.prog 22 #[v] w fun e w' => e = .returned (.bool (mayOs os)) ∧ Below w.heap.size w w' := by
  obtain ⟨n, hn⟩ : ∃ n, n = os.length := ⟨_, rfl⟩
  have hmax := hr.2.1
  rw [← hn] at hmax
  unfold maxLen at hmax
  have hb : Below w.heap.size w w := Below.refl _ _
  obtain ⟨R, hR⟩ : ∃ R, R = mayOs os := ⟨_, rfl⟩
  have HRR : Hid (R = mayOs os) := hR
  have HN : Hid (n = os.length) := hn
  obtain ⟨x, c, hv⟩ := row_slice hr.1
  rw [← hn] at hv
  subst hv
  have HR : Hid (ORow w (.slice x n c) os) := hr
  rw [← hR]
  clear hR hr hn
  go_enter Try.func22, Try.ntmps22
  go_wp2
  go_loopw [3, 8] (fun l i wr => ∃ k y : Nat, k ≤ n ∧ y ≤ 65535 ∧ l = .int .i64 (y : Int) ∧ i = .int .i64 (k : Int) ∧ Hid (y + (osB (os.take k)).length = 65535) ∧ Hid (∀ j (h : j < os.length), j < k → fitO 65536 os[j].c = true) ∧ Below w.heap.size w wr) (fun _ i _ => n - (intOf i).toNat)
  case atStart => exact ⟨0, 65535, Nat.zero_le _, by decide, rfl, rfl, rfl, fun j _ hj => absurd hj (Nat.not_lt_zero _), hb⟩
  case round =>
    clear hb
    obtain ⟨k, y, hk, hy, rfl, rfl, HY, HA, hb⟩ := hrel
    by_cases hkn : k < n
    · have hkm : k < os.length := by have := HN.out; omega
      obtain ⟨g, o, cap, hx, hc⟩ := row_at (HR.out.below hb).1 (by omega)
      simp only [Value.slice.injEq] at hx
      obtain ⟨rfl, -, rfl⟩ := hx
      obtain ⟨d0, d1⟩ := o_cells hc hkm
      have hfar := HR.out.2.2 _ (List.getElem_mem hkm)
      unfold far at hfar
      have HT : Hid ((osB (os.take (k + 1))).length = (osB (os.take k)).length + (4 + os[k].d.size)) := by unfold Hid; rw [osB_take hkm, List.length_append, oB_len]
      have HNo : Hid (fitO 65536 os[k].c = false → mayOs os = false) := fun h => mayOs_code hkm h
      have HA2 : Hid (fitO 65536 os[k].c = true → ∀ j (h : j < os.length), j < k + 1 → fitO 65536 os[j].c = true) := fun h j hj hk1 => by
        by_cases e : j = k
        · subst e; exact h
        · exact HA.out j hj (by omega)
      obtain ⟨q, hq⟩ : ∃ q, q = os[k] := ⟨_, rfl⟩
      simp only [← hq] at d0 d1 hfar HT HNo HA2
      obtain ⟨qc, qd⟩ := q
      simp only at d0 d1 hfar HT HNo HA2
      clear hc hq
      by_cases hfit : 4 + qd.size ≤ y
      · have hfit' : decide ((y : Int) - (4 + (qd.size : Int)) < 0) = false := by simp; omega
        obtain ⟨b, hbq⟩ : ∃ b, fitO 65536 qc = b := ⟨_, rfl⟩
        have hcall := fun u => fit16 qc b u hbq
        rw [hbq] at HNo HA2
        clear hbq
        cases b with
        | false =>
          have HF : Hid (R = false) := by unfold Hid; rw [HRR.out]; exact HNo.out rfl
          go_wp2_with (go_at_call 34; go_must (refine (hcall _).mono ?_); rintro e w' ⟨rfl, hw⟩; obtain rfl := hw.symm)
          go_ret
          exact ⟨ret_bool HF.out.symm, lay hb _⟩
        | true =>
          go_wp2_with (go_at_call 34; go_must (refine (hcall _).mono ?_); rintro e w' ⟨rfl, hw⟩; obtain rfl := hw.symm)
          go_roundw
          case rel => exact ⟨k + 1, y - (4 + qd.size), by omega, by omega, by go_num, by go_num, by unfold Hid; rw [HT.out]; have := HY.out; omega, HA2.out (by trivial), lay hb _⟩
          case measure => simp [intOf]; omega
      · have hfit' : (y : Int) - (4 + (qd.size : Int)) < 0 := by omega
        have HF : Hid (R = false) := by unfold Hid; rw [HRR.out]; exact mayOs_long (k := k + 1) (by rw [HT.out]; have := HY.out; omega)
        go_wp2
        go_ret
        exact ⟨ret_bool HF.out.symm, lay hb _⟩
    · have hkn' : decide (k < n) = false := by simpa using hkn
      have HF : Hid (R = true) := by
        unfold Hid; rw [HRR.out]
        have h1 := HY.out
        rw [List.take_of_length_le (by have := HN.out; omega)] at h1
        refine mayOs_yes (fun o ho => ?_) (by omega)
        obtain ⟨j, hj, rfl⟩ := List.getElem_of_mem ho
        exact HA.out j hj (by have := HN.out; omega)
      go_wp2
      go_ret
      exact ⟨ret_bool HF.out.symm, hb⟩

theorem own_sep {w : World} {B e z n g : Nat} {v : Value} {xs : List Value} {C : Array Value} {t : TypeId} (h : w.ownsRow B e z v n xs) (hb : Blk w g C t) (ht : t ≠ e) : some g ≠ v.ownBlock := by
  intro hk
  rcases h.2 with ⟨h1, _⟩ | ⟨g', cap, cur, h1, _, hg, _⟩
  · rw [h1] at hk; simp [Value.ownBlock] at hk
  · rw [h1] at hk
    simp [Value.ownBlock] at hk
    subst hk
    unfold Blk at hb
    rw [hg] at hb
    simp at hb
    exact ht hb.2.symm
theorem oB_cells (o : On) : (oB o).map bv = Lib.strCells (be2 o.c) ++ Lib.strCells (be2 (o.d.size : Int)) ++ Lib.strCells o.d := by
  simp [oB, Lib.strCells, bv, be2]

set_option maxRecDepth 20000 in
set_option maxHeartbeats 1000000 in
theorem putOptions_any (v : Value) (os : List On) (w : World) (hr : ORow w v os) (hm : (osB os).length ≤ 65535) :
    Calls Try.prog 24 #[v] w fun e w' => e = .returned (.string ⟨(osB os).toArray⟩) ∧ Below w.heap.size w w' := by
  obtain ⟨i0, hi, hz0, hz1, hz2⟩ := info_parts info5
  obtain ⟨n, hn⟩ : ∃ n, n = os.length := ⟨_, rfl⟩
  have hmax := hr.2.1
  rw [← hn] at hmax
  unfold maxLen at hmax
  have hb : Below w.heap.size w w := Below.refl _ _
  have HN : Hid (n = os.length) := hn
  have HM : Hid ((osB os).length ≤ 65535) := hm
  obtain ⟨x, c, hv⟩ := row_slice hr.1
  rw [← hn] at hv
  subst hv
  have HR : Hid (ORow w (.slice x n c) os) := hr
  clear hr hn hm
  go_enter Try.func24, Try.ntmps24
  go_wp2
  go_loopw [3, 8] (fun ov i wr => ∃ (k m : Nat), k ≤ n ∧ m ≤ 65535 ∧ i = .int .i64 (k : Int) ∧ wr.ownsRow w.heap.size 5 1 ov m ((osB (os.take k)).map bv) ∧ Hid (m = (osB (os.take k)).length) ∧ Below w.heap.size w wr) (fun _ i _ => n - (intOf i).toNat)
  case atStart => exact ⟨0, 0, Nat.zero_le _, Nat.zero_le _, rfl, World.ownsRow_nil _ _ _ _, rfl, hb⟩
  case round =>
    clear hb
    obtain ⟨k, m, hk, hmn, rfl, hown, HMM, hb⟩ := hrel
    have hB : w.heap.size ≤ wr.heap.size := hb.size
    by_cases hkn : k < n
    · have hkm : k < os.length := by have := HN.out; omega
      obtain ⟨g, o, cap, hx, hc⟩ := row_at (HR.out.below hb).1 (by omega)
      simp only [Value.slice.injEq] at hx
      obtain ⟨rfl, -, rfl⟩ := hx
      obtain ⟨d0, d1⟩ := o_cells hc hkm
      have hfar := HR.out.2.2 _ (List.getElem_mem hkm)
      unfold far at hfar
      have hle := osB_le os (k + 1)
      have hstep := osB_take hkm
      rw [hstep, List.length_append, oB_len, ← HMM.out] at hle
      have hle' : m + (4 + os[k].d.size) ≤ 65535 := Nat.le_trans hle HM.out
      have HS : Hid (osB (os.take (k + 1)) = osB (os.take k) ++ oB os[k]) := hstep
      obtain ⟨q, hq⟩ : ∃ q, q = os[k] := ⟨_, rfl⟩
      simp only [← hq] at d0 d1 hfar HS hle'
      obtain ⟨qc, qd⟩ := q
      simp only at d0 d1 hfar HS hle'
      have z2 : (be2 qc).size = 2 := rfl
      have z3 : (be2 (qd.size : Int)).size = 2 := rfl
      obtain ⟨B1, hB1⟩ : ∃ B, B = be2 qc := ⟨_, rfl⟩
      obtain ⟨B2, hB2⟩ : ∃ B, B = be2 (qd.size : Int) := ⟨_, rfl⟩
      have k1 := fun u => put16_any qc u
      have k2 := fun u => put16_any (qd.size : Int) u
      have HC : Hid ((oB ⟨qc, qd⟩).map bv = Lib.strCells B1 ++ Lib.strCells B2 ++ Lib.strCells qd) := by unfold Hid; rw [hB1, hB2]; exact oB_cells ⟨qc, qd⟩
      rw [← hB1] at k1 z2
      rw [← hB2] at k2 z3
      clear hc hq hstep hle hB1 hB2
      have t1 : True := trivial
      have t2 : True := trivial
      have t3 : True := trivial
      have hk1 : k + 1 ≤ n := hkn
      have kb := Blk.new wr (oV ⟨qc, qd⟩).toArray 52
      go_wp2_with (first
        | (go_at_call 35; have _t := t1; go_must (refine (k1 _).mono ?_); rintro e w1 ⟨rfl, b1⟩; replace kb := kb.below b1; have hown1 := own_past (hown.alloc _) b1; replace hb := next (lay hb _) b1; clear b1 t1 _t hown)
        | (at_builtin; have _t := t2; (refine Lib.wpList_append_own_string _ rfl _ _ 54 9 rfl w.heap.size 5 i0 Try.underlying54 Try.underlying9 hi hz0 hz1 hz2 _ _ _ rfl hown1 B1 rfl (by unfold maxLen; omega) (by omega) hb.size ?_); intro v2 w2 hown2 g2 _; replace kb := kb.grown g2 (own_sep hown1 kb (by decide)); replace hb := hb.grown g2 hb.size (fun k e => (hown1.lt k e).1); have e2 : w2.cell? ⟨wr.heap.size, 1, none⟩ = some (.string qd) := kb.cell 1; clear t2 _t hown1 g2)
        | (go_at_call 35; go_must (refine (k2 _).mono ?_); rintro e w3 ⟨rfl, b1⟩; replace kb := kb.below b1; have hown3 := own_past hown2 b1; replace hb := next hb b1; clear b1 hown2 e2)
        | (at_builtin; have _t := t3; (refine Lib.wpList_append_own_string _ rfl _ _ 54 9 rfl w.heap.size 5 i0 Try.underlying54 Try.underlying9 hi hz0 hz1 hz2 _ _ _ rfl hown3 B2 rfl (by unfold maxLen; omega) (by omega) hb.size ?_); intro v4 w4 hown4 g4 _; replace kb := kb.grown g4 (own_sep hown3 kb (by decide)); replace hb := hb.grown g4 hb.size (fun k e => (hown3.lt k e).1); have e4 : w4.cell? ⟨wr.heap.size, 1, none⟩ = some (.string qd) := kb.cell 1; clear t3 _t hown3 g4)
        | (at_builtin; (refine Lib.wpList_append_own_string _ rfl _ _ 54 9 rfl w.heap.size 5 i0 Try.underlying54 Try.underlying9 hi hz0 hz1 hz2 _ _ _ rfl hown4 qd rfl (by unfold maxLen; omega) (by omega) hb.size ?_); intro v5 w5 hown5 g5 _; replace hb := hb.grown g5 hb.size (fun k e => (hown4.lt k e).1); clear hown4 g5 e4))
      have HO : Hid (w5.ownsRow w.heap.size 5 1 v5 (m + (4 + qd.size)) ((osB (os.take (k + 1))).map bv)) := by
        unfold Hid
        rw [HS.out, List.map_append, HC.out, show m + (4 + qd.size) = m + B1.size + B2.size + qd.size from by omega]
        simpa [List.append_assoc] using hown5
      have HM2 : Hid (m + (4 + qd.size) = (osB (os.take (k + 1))).length) := by unfold Hid; rw [HS.out, List.length_append, oB_len, ← HMM.out]
      have HB5 : Hid (Below w.heap.size w w5) := hb
      clear hown5 kb hb
      go_roundw
      case rel => exact ⟨k + 1, m + (4 + qd.size), hk1, hle', by go_num, HO.out, HM2, HB5.out⟩
      case measure => simp [intOf]; omega
    · have hkn' : decide (k < n) = false := by simpa using hkn
      have hall : os.take k = os := List.take_of_length_le (by have := HN.out; omega)
      rw [hall] at hown
      clear hall
      go_wp2_with (refine wpList_string _ rfl (.tmp 28) rfl w.heap.size m _ (osB os) rfl hown ?_)
      go_ret
      exact ⟨rfl, hb⟩

end Go.Proofs.Ytehldafdjldpbaa
