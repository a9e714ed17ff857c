/- StripTwice holds: for every OPT, what Strip gives holds what is no client's address, in its row, all else as it was, and stripped again it is as it was. -/
import Derived.Test.YtfhaogacblnnnaaEcF
import Derived.Test.YtfhaogacblnnnaaOpH
import Derived.Test.YtfhaogacblnnnaaOpM
import Derived.ProofKit
import Derived.OpenShut
import Derived.ShutString
namespace Go.Proofs.Ytfhaogacblnnnaa.stripTwice
open Go.ChangeShapes Go.WideShapes Go.ChangeAt Go.RowKit
open Go.ChangeMaps (open_string shut_string)

/-- What StripTwice holds while it looks: the OPT, what was stripped once, twice. -/
structure TW (w0 w : World) (C0 C1 C2 : Array Value) (ga gb : Nat) (v va vb : Value) (os : List On) : Prop where
  box : Blk w w0.heap.size C0 24
  one : Blk w ga C1 24
  two : Blk w gb C2 24
  row : Row w v os.length (oC os)
  rowa : Row w va (flt os).length (oC (flt os))
  rowb : Row w vb (flt os).length (oC (flt os))
  below : Below w0.heap.size w0 w
theorem TW.past {w0 w w' : World} {C0 C1 C2 : Array Value} {ga gb : Nat} {v va vb : Value} {os : List On} (h : TW w0 w C0 C1 C2 ga gb v va vb os) (hb : Below w.heap.size w w') : TW w0 w' C0 C1 C2 ga gb v va vb os :=
  ⟨h.box.below hb, h.one.below hb, h.two.below hb, h.row.below hb, h.rowa.below hb, h.rowb.below hb, next h.below hb⟩

set_option maxRecDepth 20000 in
set_option maxHeartbeats 4000000 in
theorem walk (o : Ot) (v : Value) (hz : o.os.length * 24 ≤ far) (w : World) (hr : ORow w v o.os) :
    Calls Try.prog 4 #[.agg (optC o v)] w fun e w' => e = .returned (.bool true) ∧ Below w.heap.size w w' := by
  obtain ⟨s, ee, vv, b, z, os⟩ := o
  simp only at hz hr ⊢
  obtain ⟨hrow, hmx, hds⟩ := hr
  obtain ⟨x, c, hv⟩ := row_slice hrow
  obtain ⟨n, hn⟩ : ∃ n, n = os.length := ⟨_, rfl⟩
  rw [← hn] at hv
  subst hv
  obtain ⟨M, hM⟩ : ∃ M, M = (flt os).length := ⟨_, rfl⟩
  have hle := flt_le os
  have P1 := fun u h => strip_l s ee vv b z os M hM (.slice x n c) u h hmx hz (fun x hx => by have := hds x hx; unfold far at this; omega)
  have P2 := fun v' u h => strip_l s ee vv b z (flt os) M (by rw [flt_flt]; exact hM) v' u h (Nat.le_trans hle hmx) (by omega) (fun x hx => by have := hds x (flt_mem hx).1; unfold far at this; omega)
  rw [flt_flt] at P2
  have P3 := fun va vb u h h' => sameOpt_yes ⟨s, ee, vv, b, z, flt os⟩ va vb u h h' (Nat.le_trans hle hmx)
  unfold optC at P3
  simp only at P3
  have hnm : n ≤ maxLen := by rw [hn]; exact hmx
  have hMm : M ≤ maxLen := by rw [hM]; exact Nat.le_trans hle hmx
  unfold maxLen at hnm hMm
  have HN : Hid (n = os.length) := hn
  have HM : Hid (M = (flt os).length) := hM
  have hb := lay (Below.refl w.heap.size w) (.cells #[.int .i64 s, .int .i64 ee, .int .i64 vv, .bool b, .int .i64 z, .slice x n c] 24)
  have k0 := Blk.new w #[.int .i64 s, .int .i64 ee, .int .i64 vv, .bool b, .int .i64 z, .slice x n c] 24
  have HR : Hid (Row _ (.slice x n c) os.length (oC os)) := hrow.below hb
  unfold optC
  simp only
  clear hrow hmx hds hz hn hM hle
  have t1 : True := trivial
  go_enter Try.func4, Try.ntmps4
  go_wp2_with (first
    | (go_at_call 13; go_must (refine (awake_any _).mono ?_); rintro e w0 ⟨rfl, b0⟩; replace HR : Hid (Row w0 (.slice x n c) os.length (oC os)) := HR.out.below b0; replace k0 := k0.below b0; replace hb := next hb b0; obtain ⟨d0, d1, d2, d3, d4, d5⟩ := k0.six'; clear b0)
    | (go_at_call 7; have _t := t1; go_must (refine (P1 _ HR.out).mono ?_); rintro e w1 ⟨y1, c1, rfl, o1, b1⟩; replace b1 := next b1 (lay (Below.refl _ _) (.cells #[.int .i64 s, .int .i64 ee, .int .i64 vv, .bool b, .int .i64 z, .slice y1 M c1] 24)); have k1 := Blk.new w1 #[.int .i64 s, .int .i64 ee, .int .i64 vv, .bool b, .int .i64 z, .slice y1 M c1] 24; have HA : Hid (Row (w1.alloc (.cells #[.int .i64 s, .int .i64 ee, .int .i64 vv, .bool b, .int .i64 z, .slice y1 M c1] 24)) (.slice y1 M c1) (flt os).length (oC (flt os))) := (by unfold Hid; rw [← HM.out]; exact Row.of_own (o1.alloc _)); replace HR : Hid (Row (w1.alloc (.cells #[.int .i64 s, .int .i64 ee, .int .i64 vv, .bool b, .int .i64 z, .slice y1 M c1] 24)) (.slice x n c) os.length (oC os)) := HR.out.below b1; replace k0 := k0.below b1; replace hb := next hb b1; clear d0 d1 d2 d3 d4 d5; obtain ⟨d0, d1, d2, d3, d4, d5⟩ := k1.six'; clear b1 o1 t1 _t)
    | (go_at_call 7; go_must (refine (P2 _ _ HA.out).mono ?_); rintro e w2 ⟨y2, c2, rfl, o2, b2⟩; replace b2 := next b2 (lay (Below.refl _ _) (.cells #[.int .i64 s, .int .i64 ee, .int .i64 vv, .bool b, .int .i64 z, .slice y2 M c2] 24)); have k2 := Blk.new w2 #[.int .i64 s, .int .i64 ee, .int .i64 vv, .bool b, .int .i64 z, .slice y2 M c2] 24; have HT : Hid (TW w (w2.alloc (.cells #[.int .i64 s, .int .i64 ee, .int .i64 vv, .bool b, .int .i64 z, .slice y2 M c2] 24)) #[.int .i64 s, .int .i64 ee, .int .i64 vv, .bool b, .int .i64 z, .slice x n c] #[.int .i64 s, .int .i64 ee, .int .i64 vv, .bool b, .int .i64 z, .slice y1 M c1] #[.int .i64 s, .int .i64 ee, .int .i64 vv, .bool b, .int .i64 z, .slice y2 M c2] w1.heap.size w2.heap.size (.slice x n c) (.slice y1 M c1) (.slice y2 M c2) os) := ⟨k0.below b2, k1.below b2, k2, HR.out.below b2, HA.out.below b2, (by rw [← HM.out]; exact Row.of_own (o2.alloc _)), next hb b2⟩; clear b2 o2 k0 k1 k2 HR HA hb d0 d1 d2 d3 d4 d5))
  go_loopw [5, 6] (fun kv iv wr => ∃ (m j : Nat), m ≤ M ∧ j ≤ n ∧ kv = .int .i64 (m : Int) ∧ iv = .int .i64 (j : Int) ∧ Hid (m = (flt (os.take j)).length) ∧ Hid (TW w wr #[.int .i64 s, .int .i64 ee, .int .i64 vv, .bool b, .int .i64 z, .slice x n c] #[.int .i64 s, .int .i64 ee, .int .i64 vv, .bool b, .int .i64 z, .slice y1 M c1] #[.int .i64 s, .int .i64 ee, .int .i64 vv, .bool b, .int .i64 z, .slice y2 M c2] w1.heap.size w2.heap.size (.slice x n c) (.slice y1 M c1) (.slice y2 M c2) os)) (fun _ i _ => n - (intOf i).toNat)
  case atStart => exact ⟨0, 0, Nat.zero_le _, Nat.zero_le _, rfl, rfl, by unfold Hid; rfl, HT⟩
  case round =>
    clear HT P1 P2
    obtain ⟨m, j, hmM, hjn, rfl, rfl, HJ, HT⟩ := hrel
    by_cases hj : j < n
    · have hjm : j < os.length := by have := HN.out; omega
      have hj' : (j : Int) < (n : Int) := by omega
      have d5 := HT.out.box.cell 5
      simp only [List.getElem?_toArray, List.getElem?_cons_succ, List.getElem?_cons_zero] at d5
      obtain ⟨g', o', cap', hx, hc⟩ := row_at HT.out.row (by omega)
      simp only [Value.slice.injEq] at hx
      obtain ⟨rfl, -, rfl⟩ := hx
      obtain ⟨e0, e1⟩ := o_cells hc hjm
      clear hc
      cases he : ec os[j] with
      | true =>
        have HK : Hid (m = (flt (os.take (j + 1))).length) := by unfold Hid; rw [flt_yes hjm he]; exact HJ.out
        have hq : (os[j].c == 8) = true := he
        obtain ⟨qc, hqc⟩ : ∃ q, q = os[j].c := ⟨_, rfl⟩
        rw [← hqc] at hq e0
        clear he hqc e1
        go_wp2
        go_roundw
        case rel => exact ⟨m, j + 1, hmM, by omega, rfl, by go_num, HK, HT⟩
        case measure => simp [intOf]; omega
      | false =>
        obtain ⟨hl, hget⟩ := flt_get hjm he
        have hl2 : m < M := by rw [HJ.out, HM.out]; exact hl
        have HK : Hid (m + 1 = (flt (os.take (j + 1))).length) := by unfold Hid; rw [flt_no hjm he, List.length_append, ← HJ.out]; rfl
        have hq : (os[j].c == 8) = false := he
        obtain ⟨ga, oa, capa, hxa, hca⟩ := row_at HT.out.rowa (by omega)
        simp only [Value.slice.injEq] at hxa
        obtain ⟨rfl, -, rfl⟩ := hxa
        obtain ⟨a0, a1⟩ := o_cells hca hl
        rw [hget, ← HJ.out] at a0 a1
        have f5 := HT.out.one.cell 5
        simp only [List.getElem?_toArray, List.getElem?_cons_succ, List.getElem?_cons_zero] at f5
        obtain ⟨q, hqq⟩ : ∃ q, q = os[j] := ⟨_, rfl⟩
        rw [← hqq] at hq e0 e1 a0 a1
        obtain ⟨qc, qd⟩ := q
        simp only at hq e0 e1 a0 a1
        have g1 : decide (M ≤ m) = false := by simp; omega
        have g2 : (m : Int) < (M : Int) := by omega
        clear he hqq hca hl hget
        go_wp2
        go_quiet (fail)
        go_wp2
        go_roundw
        case rel => exact ⟨m + 1, j + 1, hl2, by omega, by go_num, by go_num, HK, HT.out.past (below_drew ⟨_, rfl⟩)⟩
        case measure => simp [intOf]; omega
    · have hj' : decide (j < n) = false := by simpa using hj
      have hmm : ((m : Int) == (M : Int)) = true := by
        have h1 := HJ.out
        rw [List.take_of_length_le (by have := HN.out; omega), ← HM.out] at h1
        simp [h1]
      obtain ⟨d0, d1, d2, d3, d4, d5⟩ := HT.out.box.six'
      obtain ⟨e0, e1, e2, e3, e4, e5⟩ := HT.out.one.six'
      obtain ⟨f0, f1, f2, f3, f4, f5⟩ := HT.out.two.six'
      go_wp2_with (go_at_call 9; go_must (refine (P3 _ _ _ HT.out.rowa HT.out.rowb).mono ?_); rintro e w3 ⟨rfl, b3⟩; replace HT : Hid (TW w w3 #[.int .i64 s, .int .i64 ee, .int .i64 vv, .bool b, .int .i64 z, .slice x n c] #[.int .i64 s, .int .i64 ee, .int .i64 vv, .bool b, .int .i64 z, .slice y1 M c1] #[.int .i64 s, .int .i64 ee, .int .i64 vv, .bool b, .int .i64 z, .slice y2 M c2] w1.heap.size w2.heap.size (.slice x n c) (.slice y1 M c1) (.slice y2 M c2) os) := HT.out.past b3; clear d0 d1 d2 d3 d4 d5 e0 e1 e2 e3 e4 e5 f0 f1 f2 f3 f4 f5; obtain ⟨d0, d1, d2, d3, d4, d5⟩ := HT.out.box.six'; obtain ⟨e0, e1, e2, e3, e4, e5⟩ := HT.out.one.six'; clear b3)
      go_ret
      exact ⟨ret_bool (by simp), HT.out.below⟩

theorem own : ownKnob Try.prog.godebug = none := by kernel_rfl
theorem laidOut : laidOutB Try.prog = true := by kernel_rfl

set_option maxRecDepth 100000 in
theorem lifted (os : Os) (started : os.Started) (H : Type) (enc : TypeId × Value → H) :
    ReturnsInHanded {} Try.checked os 4 .any (Rows.stripTwiceSpec.pre6 enc Try.prog Try.f4 Rows.stripTwiceRow.domain false) (Rows.stripTwiceSpec.post enc Try.prog Try.f4 false true false false) := by
  refine returnsInHanded_of_change_sized (C := Try.checked) own started (by kernel_rfl) Try.func4
    (ChangeSpec.witness6 (enc := enc) (C := Try.checked) false ⟨#[], #[.agg (optC otZ (.slice none 0 0))], []⟩ 8 (by kernel_rfl) (by kernel_rfl) (by kernel_rfl) (by kernel_rfl)) ?_
  intro W base args ds gs before hval0 hW _ hsz0 _
  have hval : ∀ (j : Nat) t v, Try.f4.params[j]? = some t → args[j]? = some v → Value.okWide Try.prog W .any base t v := hval0
  have hsz : (DataW.weightsEach Try.prog (Try.f4.params.toList ++ Rows.stripTwiceSpec.plain.varTypes Try.prog) (ds ++ gs)).all (· ≤ reachBytes) = true := hsz0
  have hW' := hW
  obtain ⟨p, q, hA0, hV, rfl, hfz, hnd⟩ := hW
  have hA : DataW.TrodAll enc Try.prog W 0 (fun _ => true) true Try.f4.params.toList args.toList ds p := hA0
  rw [Try.params4] at hA hval hsz
  obtain ⟨v0, vs0, d0, ds0, p0, q0, hargs, rfl, rfl, h0, r0⟩ := trodAll_cons hA
  obtain ⟨rfl, rfl, rfl⟩ := trodAll_nil r0
  obtain rfl : args = #[v0] := by cases args; simp_all
  obtain ⟨rfl, rfl⟩ := trodVars_none hV
  obtain ⟨a0, b0, rfl, w0, z0⟩ := open_opt (hval 0 24 v0 rfl rfl) h0 (weights_all hsz (j := 0) rfl rfl)
  have hlt0 : ∀ x ∈ p0, x.block < W.heap.size := fun x hx => by
    have := hW'.lt x (by simp [hx])
    simpa using this
  clear hA0 hval0 hsz0 hsz
  simp only [List.append_nil] at hW'
  refine (walk a0 b0  z0 W w0).mono fun e W' ⟨he, bel⟩ => ?_
  subst he
  exact ⟨_, rfl, _, _, _, [], _, [], hW', trodAll_mk1 (shut_bool Try.underlying4 _), (trodAll_cons_mk (Below.trod laidOut (by kernel_rfl) (of_decide_eq_true (by kernel_rfl)) h0 bel hlt0) trodAll_mk0), rfl, bel.frame _, fun h => by cases h⟩

/-- The statement. -/
theorem proved : Rows.StripTwiceSaid :=
  OpenClaim.holds_of_wide 4 Try.f4 rfl rfl rfl rfl rfl rfl rfl ⟨rfl, rfl, rfl, rfl, rfl⟩ rfl rfl rfl rfl rfl (by kernel_rfl) Try.func4 (by kernel_rfl)
    (of_decide_eq_true (by kernel_rfl)) (by unfold Func.isWrapper; first | (rw [if_pos (by decide +kernel)]; kernel_rfl) | (rw [if_neg (by decide +kernel)]; exact ⟨rfl, rfl⟩))
    (fun os started H enc _ => lifted os started H enc)
#print axioms proved

end Go.Proofs.Ytfhaogacblnnnaa.stripTwice
