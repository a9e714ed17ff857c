/- What the document's PutOpt gives, where the fields fit. -/
import Derived.Test.YtcapankhobnfeaaXOpO
namespace Go.Proofs.Ytcapankhobnfeaa
open Go.RowKit

/-- What PutOpt holds: the argument's block, the answer's. -/
structure PA (w w' : World) (o : Ot) (v : Value) : Prop where
  ka : Blk w' w.heap.size (optC o v) 50
  kb : Blk w' (w.heap.size + 1) (rrC rcZ) 54
  bel : Below w.heap.size w w'
theorem PA.below {w a b : World} {o : Ot} {v : Value} (h : PA w a o v) (hb : Below a.heap.size a b) : PA w b o v := ⟨h.ka.below hb, h.kb.below hb, next h.bel hb⟩
theorem PA.lay {w a : World} {o : Ot} {v : Value} (h : PA w a o v) (ob : Obj) : PA w (a.alloc ob) o v := h.below ((Below.refl _ _).alloc (Nat.le_refl _) ob)
theorem or_i64 (x y : Int) (i : Nat) (P : Int) (hP : P = 2 ^ i) (hx₀ : 0 ≤ x) (hx : x % P = 0) (hx₁ : x < 4611686018427387904) (hy₀ : 0 ≤ y) (hy : y < P) (hy₁ : y < 4611686018427387904) : bits .or .i64 x y = x + y :=
  bits_join .i64 62 (by decide) wraps_i64 i x y hx₀ (hP ▸ hx) hx₁ hy₀ (hP ▸ hy) hy₁

set_option maxRecDepth 20000 in
set_option maxHeartbeats 4000000 in
theorem refPut_rest (s ee vv : Int) (b : Bool) (z : Int) (os : List On) (x : Option Addr) (n c : Nat) (w : World) (hm : mayFl ⟨s, ee, vv, b, z, os⟩ = true) (hr : ORow w (.slice x n c) os) (hn : n = os.length) :
    Calls Try.prog 37 #[.agg (optC ⟨s, ee, vv, b, z, os⟩ (.slice x n c))] w fun e w' => e = .returned (putOV ⟨s, ee, vv, b, z, os⟩) ∧ Below w.heap.size w w' := by
  obtain ⟨KA, KB, hb⟩ := put_blks w ⟨s, ee, vv, b, z, os⟩ (.slice x n c)
  have HP : Hid (PA w _ ⟨s, ee, vv, b, z, os⟩ (.slice x n c)) := ⟨KA, KB, hb⟩
  have HR : Hid (ORow w (.slice x n c) os) := hr
  have HN : Hid (n = os.length) := hn
  have hmax := hr.2.1
  rw [← hn] at hmax
  unfold maxLen at hmax
  have HNO : Hid (mayOs os = false → putOV ⟨s, ee, vv, b, z, os⟩ = .tuple #[.agg (rrC rcZ), .int .i64 800]) := fun h => putOV_no (by unfold mayOt; rw [h, Bool.and_false])
  have HYES : Hid (mayOs os = true → putOV ⟨s, ee, vv, b, z, os⟩ = .tuple #[.agg (rrC ⟨rootB, 41, s, ttlO ⟨s, ee, vv, b, z, os⟩, ⟨(osB os).toArray⟩⟩), .int .i64 0]) := fun h => putOV_yes (by unfold mayOt; rw [hm, h]; rfl)
  have hm' := hm
  unfold mayFl at hm'
  simp only [Bool.and_eq_true] at hm'
  obtain ⟨⟨⟨f1, f2⟩, f3⟩, f4⟩ := hm'
  have K1 := fun u => shortO_as s true u f1
  replace f2 := fitO_iff.1 f2
  replace f3 := fitO_iff.1 f3
  replace f4 := fitO_iff.1 f4
  have d1 : decide (ee < 0) = false := by simp; omega
  have d2 : decide (255 < ee) = false := by simp; omega
  have d3 : decide (vv < 0) = false := by simp; omega
  have d4 : decide (255 < vv) = false := by simp; omega
  have d5 : decide (z < 0) = false := by simp; omega
  have d6 : decide (32767 < z) = false := by simp; omega
  clear KA KB hb hr hn f1 hm
  unfold optC
  simp only
  go_enter Try.func37, Try.ntmps37
  go_wp2_with (go_at_call 27; go_must (refine (K1 _).mono ?_); rintro e w' ⟨rfl, hw⟩; obtain rfl := hw.symm)
  go_loopw [4, 5] (fun d i wr => ∃ (k : Nat) (S : ByteArray), k ≤ n ∧ S.size ≤ 200000 ∧ d = .string S ∧ i = .int .i64 (k : Int) ∧ Hid (S.data.toList = osB (os.take k)) ∧ Hid (∀ j (h : j < os.length), j < k → fitO 65536 os[j].c = true) ∧ Hid (PA w wr ⟨s, ee, vv, b, z, os⟩ (.slice x n c))) (fun _ i _ => n - (intOf i).toNat)
  case atStart => exact ⟨0, ⟨#[]⟩, Nat.zero_le _, by decide, rfl, rfl, rfl, fun j _ hj => absurd hj (Nat.not_lt_zero _), HP⟩
  case round =>
    clear HP K1 d1 d2 d3 d4 d5 d6
    obtain ⟨k, S, hk, hS, rfl, rfl, HS, HA, HP⟩ := hrel
    have HSL : Hid (S.size = (osB (os.take k)).length) := by unfold Hid; rw [← HS.out, data_len]
    have a5 : wr.cell? ⟨w.heap.size, 5, none⟩ = some (.slice x n c) := HP.out.ka.cell 5
    by_cases hkn : k < n
    · have hkn' : (k : Int) < (n : Int) := by omega
      have hkm : k < os.length := by have := HN.out; omega
      obtain ⟨g, o, cp, hx, hc⟩ := row_at (HR.out.below HP.out.bel).1 (by omega)
      simp only [Value.slice.injEq] at hx
      obtain ⟨rfl, -, rfl⟩ := hx
      obtain ⟨e0, e1⟩ := o_cells hc hkm
      have hfar := HR.out.2.2 _ (List.getElem_mem hkm)
      unfold far at hfar
      have HT : Hid (osB (os.take (k + 1)) = osB (os.take k) ++ oB os[k]) := osB_take hkm
      have HNC : Hid (fitO 65536 os[k].c = false → mayOs os = false) := fun h => mayOs_code hkm h
      have HA2 : Hid (fitO 65536 os[k].c = true → ∀ j (h : j < os.length), j < k + 1 → fitO 65536 os[j].c = true) := fun h j hj hk1 => by
        by_cases e : j = k
        · subst e; exact h
        · exact HA.out j hj (by omega)
      obtain ⟨q, hq⟩ : ∃ q, q = os[k] := ⟨_, rfl⟩
      simp only [← hq] at e0 e1 hfar HT HNC HA2
      obtain ⟨qc, qd⟩ := q
      simp only at e0 e1 hfar HT HNC HA2
      have hk1 : k + 1 ≤ n := hkn
      have HPx : Hid (PA w (wr.alloc (.cells #[.int .i64 qc, .string qd] 56)) ⟨s, ee, vv, b, z, os⟩ (.slice (some ⟨g, o, none⟩) n c)) := HP.out.lay _
      have KX := Blk.new wr #[.int .i64 qc, .string qd] 56
      obtain ⟨g0, g1, g2, g3, g4⟩ := HPx.out.kb.five
      obtain ⟨h0, h1, h2, h3, h4⟩ := HPx.out.kb.open5
      clear hc hq
      cases hbq : fitO 65536 qc with
      | false =>
        have K2 := fun u => shortO_as qc false u hbq
        have HF : Hid _ := HNO.out (HNC.out hbq)
        go_wp2_with (go_at_call 27; go_must (refine (K2 _).mono ?_); rintro e w' ⟨rfl, hw⟩; obtain rfl := hw.symm)
        have q := set5_blk (r := rcZ) HPx.out.kb
        have qb := set5_below HPx.out.bel (Nat.le_succ _) HPx.out.bel.size rcZ
        change bodyPost Try.prog Try.f37 _ _ _ (set5 (wr.alloc (.cells #[.int .i64 qc, .string qd] 56)) (w.heap.size + 1) rcZ)
        revert q qb
        generalize set5 (wr.alloc (.cells #[.int .i64 qc, .string qd] 56)) (w.heap.size + 1) rcZ = W
        intro q qb
        obtain ⟨q0, q1, q2, q3, q4⟩ := q.five
        refine bodyPost_ret (v := .tuple #[.agg (rrC rcZ), .int .i64 800]) (by simp [results, Try.results37, go_sem, q0, q1, q2, q3, q4, rrC]) rfl ⟨by rw [HF.out], qb⟩
      | true =>
        have K2 := fun u => shortO_as qc true u hbq
        replace HA2 : Hid (∀ j (h : j < os.length), j < k + 1 → fitO 65536 os[j].c = true) := HA2.out hbq
        have HLT : Hid ((osB (os.take (k + 1))).length = (osB (os.take k)).length + (4 + qd.size)) := by unfold Hid; rw [HT.out, List.length_append, oB_len]
        clear HNC hbq
        by_cases hq6 : 65535 < qd.size
        · have hq6' : (65535 : Int) < (qd.size : Int) := by omega
          have HF : Hid _ := HNO.out (mayOs_long (k := k + 1) (by rw [HLT.out]; omega))
          go_wp2_with (go_at_call 27; go_must (refine (K2 _).mono ?_); rintro e w' ⟨rfl, hw⟩; obtain rfl := hw.symm)
          have q := set5_blk (r := rcZ) HPx.out.kb
          have qb := set5_below HPx.out.bel (Nat.le_succ _) HPx.out.bel.size rcZ
          change bodyPost Try.prog Try.f37 _ _ _ (set5 (wr.alloc (.cells #[.int .i64 qc, .string qd] 56)) (w.heap.size + 1) rcZ)
          revert q qb
          generalize set5 (wr.alloc (.cells #[.int .i64 qc, .string qd] 56)) (w.heap.size + 1) rcZ = W
          intro q qb
          obtain ⟨q0, q1, q2, q3, q4⟩ := q.five
          refine bodyPost_ret (v := .tuple #[.agg (rrC rcZ), .int .i64 800]) (by simp [results, Try.results37, go_sem, q0, q1, q2, q3, q4, rrC]) rfl ⟨by rw [HF.out], qb⟩
        · have hq6' : decide ((65535 : Int) < (qd.size : Int)) = false := by simp; omega
          by_cases hS6 : 65535 < S.size
          · have hS6' : (65535 : Int) < (S.size : Int) := by omega
            have HF : Hid _ := HNO.out (mayOs_long (k := k) (by rw [← HSL.out]; exact hS6))
            go_wp2_with (go_at_call 27; go_must (refine (K2 _).mono ?_); rintro e w' ⟨rfl, hw⟩; obtain rfl := hw.symm)
            have q := set5_blk (r := rcZ) HPx.out.kb
            have qb := set5_below HPx.out.bel (Nat.le_succ _) HPx.out.bel.size rcZ
            change bodyPost Try.prog Try.f37 _ _ _ (set5 (wr.alloc (.cells #[.int .i64 qc, .string qd] 56)) (w.heap.size + 1) rcZ)
            revert q qb
            generalize set5 (wr.alloc (.cells #[.int .i64 qc, .string qd] 56)) (w.heap.size + 1) rcZ = W
            intro q qb
            obtain ⟨q0, q1, q2, q3, q4⟩ := q.five
            refine bodyPost_ret (v := .tuple #[.agg (rrC rcZ), .int .i64 800]) (by simp [results, Try.results37, go_sem, q0, q1, q2, q3, q4, rrC]) rfl ⟨by rw [HF.out], qb⟩
          · have hS6' : decide ((65535 : Int) < (S.size : Int)) = false := by simp; omega
            go_wp2_with (go_at_call 27; go_must (refine (K2 _).mono ?_); rintro e w' ⟨rfl, hw⟩; obtain rfl := hw.symm)
            have HS2 : Hid ((S ++ be2 qc ++ be2 (qd.size : Int) ++ qd).data.toList = osB (os.take (k + 1))) := by
              unfold Hid
              rw [HT.out, app_list, app_list, app_list, HS.out]
              simp [oB, be2]
            have z1 : (be2 qc).size = 2 := rfl
            have z2 : (be2 (qd.size : Int)).size = 2 := rfl
            have k1 := fun u => be_two qc u
            have k2 := fun u => be_two (qd.size : Int) u
            obtain ⟨B1, hB1⟩ : ∃ B, B = be2 qc := ⟨_, rfl⟩
            obtain ⟨B2, hB2⟩ : ∃ B, B = be2 (qd.size : Int) := ⟨_, rfl⟩
            rw [← hB1] at k1 z1 HS2
            rw [← hB2] at k2 z2 HS2
            clear hB1 hB2
            have y0 : S.size + B1.size ≤ 200000 := by omega
            have y1 : (S ++ B1).size + B2.size ≤ 200000 := by rw [ByteArray.size_append]; omega
            have y2 : (S ++ B1 ++ B2).size + qd.size ≤ 200000 := by rw [ByteArray.size_append, ByteArray.size_append]; omega
            have y3 : (S ++ B1 ++ B2 ++ qd).size ≤ 200000 := by rw [ByteArray.size_append]; exact y2
            clear HPx g0 g1 g2 g3 g4 h0 h1 h2 h3 h4 e0 e1 a5
            have HPy : Hid (PA w (wr.alloc (.cells #[.int .i64 qc, .string qd] 56)) ⟨s, ee, vv, b, z, os⟩ (.slice (some ⟨g, o, none⟩) n c)) := HP.out.lay _
            revert HPy KX
            generalize (wr.alloc (.cells #[.int .i64 qc, .string qd] 56)) = wx
            generalize wr.heap.size = gx
            intro KX HPy
            have c0 : ∀ nb : Bel wx, nb.to.cell? ⟨gx, 0, none⟩ = some (.int .i64 qc) := fun nb => (KX.below nb.h).cell 0
            have c1 : ∀ nb : Bel wx, nb.to.cell? ⟨gx, 1, none⟩ = some (.string qd) := fun nb => (KX.below nb.h).cell 1
            refine wp_region_bel (by kernel_rfl) (by kernel_rfl) (fun _ => ?_)
            repeat (go_big_quiet_step (first
              | (go_at_call_of 53 (#[Value.int IntKind.i64 qc, Value.int IntKind.i64 2]); exact bel_lays (k1 _))
              | (go_at_call 53; exact bel_lays (k2 _))))
            refine wpQuiet_nil ?_
            intro wn hwn
            have HPn : Hid (PA w wn ⟨s, ee, vv, b, z, os⟩ (.slice (some ⟨g, o, none⟩) n c)) := HPy.out.below (bel_out hwn)
            clear hwn c0 c1
            go_wp2
            go_roundw
            case rel => exact ⟨k + 1, S ++ B1 ++ B2 ++ qd, hk1, y3, rfl, by go_num, HS2, HA2, HPn⟩
            case measure => simp [intOf]; omega
    · have hkn' : decide (k < n) = false := by simpa using hkn
      have hall : os.take k = os := List.take_of_length_le (by have := HN.out; omega)
      have HKN : Hid (k = n) := by unfold Hid; omega
      rw [hall] at HS HSL
      clear hall
      obtain ⟨g0, g1, g2, g3, g4⟩ := HP.out.kb.five
      obtain ⟨h0, h1, h2, h3, h4⟩ := HP.out.kb.open5
      by_cases hS6 : 65535 < S.size
      · have hS6' : (65535 : Int) < (S.size : Int) := by omega
        have HF : Hid _ := HNO.out (mayOs_long (k := os.length) (by rw [List.take_length, ← HSL.out]; exact hS6))
        go_wp2
        have q := set5_blk (r := rcZ) HP.out.kb
        have qb := set5_below HP.out.bel (Nat.le_succ _) HP.out.bel.size rcZ
        change bodyPost Try.prog Try.f37 _ _ _ (set5 wr (w.heap.size + 1) rcZ)
        revert q qb
        generalize set5 wr (w.heap.size + 1) rcZ = W
        intro q qb
        obtain ⟨q0, q1, q2, q3, q4⟩ := q.five
        refine bodyPost_ret (v := .tuple #[.agg (rrC rcZ), .int .i64 800]) (by simp [results, Try.results37, go_sem, q0, q1, q2, q3, q4, rrC]) rfl ⟨by rw [HF.out], qb⟩
      · have hS6' : decide ((65535 : Int) < (S.size : Int)) = false := by simp; omega
        have HF := HYES.out (mayOs_yes (fun q hq => by
          obtain ⟨j, hj, rfl⟩ := List.getElem_of_mem hq
          exact HA.out j hj (by have := HN.out; have := HKN.out; omega)) (by rw [← HSL.out]; omega))
        have hD : (⟨(osB os).toArray⟩ : ByteArray) = S := by rw [← HS.out, arr_list]
        rw [hD] at HF
        obtain ⟨B, hB⟩ : ∃ B : Int, B = if b then 32768 else 0 := ⟨_, rfl⟩
        have hB2 : 0 ≤ B ∧ B ≤ 32768 ∧ B % 32768 = 0 := by rw [hB]; split <;> decide
        have kb := fun u => bit15 b u
        obtain ⟨T, hT⟩ : ∃ T, T = ttlO ⟨s, ee, vv, b, z, os⟩ := ⟨_, rfl⟩
        have hT2 : T = ee * 16777216 + vv * 65536 + B + z := by rw [hT, hB]; rfl
        rw [← hT] at HF
        rw [← hB] at kb
        have HF2 : Hid (putOV ⟨s, ee, vv, b, z, os⟩ = .tuple #[.agg (rrC ⟨rootB, 41, s, T, S⟩), .int .i64 0]) := HF
        obtain ⟨X1, hX1⟩ : ∃ X, X = ee * 16777216 + vv * 65536 := ⟨_, rfl⟩
        obtain ⟨X2, hX2⟩ : ∃ X, X = X1 + B := ⟨_, rfl⟩
        have x1 : X1 % 65536 = 0 ∧ 0 ≤ X1 ∧ X1 < 4294967296 := by omega
        have x2 : X2 % 32768 = 0 ∧ 0 ≤ X2 ∧ X2 < 4294967296 := by omega
        have x3 : X2 + z = T := by omega
        have o1 : bits .or .i64 (ee * 16777216) (vv * 65536) = X1 := by
          rw [or_i64 (ee * 16777216) (vv * 65536) 24 16777216 (by decide) (by omega) (by omega) (by omega) (by omega) (by omega) (by omega), hX1]
        have o2 : bits .or .i64 X1 B = X2 := by
          rw [or_i64 X1 B 16 65536 (by decide) x1.2.1 x1.1 (by omega) hB2.1 (by omega) (by omega), hX2]
        have o3 : bits .or .i64 X2 z = T := by
          rw [or_i64 X2 z 15 32768 (by decide) x2.2.1 x2.1 (by omega) f4.1 f4.2 (by omega), x3]
        have we : IntKind.i64.wrap (ee * 16777216) = ee * 16777216 := by rw [IntKind.wrap_i64]; omega
        have wv : IntKind.i64.wrap (vv * 65536) = vv * 65536 := by rw [IntKind.wrap_i64]; omega
        clear HF hD hT hT2 hB hX1 hX2 x1 x2 x3
        obtain ⟨c0, c1, c2, c3, c4, c5⟩ := HP.out.ka.six
        simp only at c0 c1 c2 c3 c4 c5
        have hne : w.heap.size ≠ w.heap.size + 1 := Nat.ne_of_lt (Nat.lt_succ_self _)
        go_wp2
        go_region_held3 (fun w' => w'.cell? ⟨w.heap.size, 0, none⟩ = some (.int .i64 s) ∧ w'.cell? ⟨w.heap.size, 1, none⟩ = some (.int .i64 ee) ∧ w'.cell? ⟨w.heap.size, 2, none⟩ = some (.int .i64 vv) ∧ w'.cell? ⟨w.heap.size, 3, none⟩ = some (.bool b) ∧ w'.cell? ⟨w.heap.size, 4, none⟩ = some (.int .i64 z))
          (first | (simp only [World.cell?_drew, c0, c1, c2, c3, c4, and_self]; done) | (simp only [cell_far hne, World.cell?_drew, c0, c1, c2, c3, c4, and_self]; done))
          (first | (go_at_call 65; refine (kb _).mono ?_; rintro e w' ⟨rfl, hw⟩; obtain rfl := hw.symm))
        have q := (set5_blk (r := ⟨rootB, 41, s, T, S⟩) HP.out.kb).drew (w' := (set5 wr (w.heap.size + 1) ⟨rootB, 41, s, T, S⟩).drew) ⟨1, rfl⟩
        have qb := next (set5_below HP.out.bel (Nat.le_succ _) HP.out.bel.size ⟨rootB, 41, s, T, S⟩) (below_drew (w' := (set5 wr (w.heap.size + 1) ⟨rootB, 41, s, T, S⟩).drew) ⟨1, rfl⟩)
        change Exit.then _ _ _ _ (set5 wr (w.heap.size + 1) ⟨rootB, 41, s, T, S⟩).drew
        revert q qb
        generalize (set5 wr (w.heap.size + 1) ⟨rootB, 41, s, T, S⟩).drew = W
        intro q qb
        obtain ⟨q0, q1, q2, q3, q4⟩ := q.five
        go_wp2
        refine bodyPost_ret (v := .tuple #[.agg (rrC ⟨rootB, 41, s, T, S⟩), .int .i64 0]) (by simp [results, Try.results37, go_sem, q0, q1, q2, q3, q4, rrC]) rfl ⟨by rw [HF2.out], qb⟩

theorem refPutO_any (o : Ot) (v : Value) (w : World) (hr : ORow w v o.os) : Calls Try.prog 37 #[.agg (optC o v)] w fun e w' => e = .returned (putOV o) ∧ Below w.heap.size w w' := by
  obtain ⟨x, c, rfl⟩ := row_slice hr.1
  obtain ⟨s, e, vv, b, z, os⟩ := o
  cases h : mayFl ⟨s, e, vv, b, z, os⟩ with
  | false =>
    rw [putOV_no (by unfold mayOt; rw [h]; rfl)]
    exact refPut_flds s e vv b z os _ w h
  | true => exact refPut_rest s e vv b z os x _ c w h hr rfl

end Go.Proofs.Ytcapankhobnfeaa
