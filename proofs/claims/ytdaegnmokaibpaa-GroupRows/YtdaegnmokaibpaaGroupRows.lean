/- GroupRows holds: of whatever records, in another row and twice, the same sets come but for their row; each lasts at most MaxTtl, has texts that rise and a folded name. -/
import Derived.Test.YtdaegnmokaibpaaSeM
import Derived.ProofKit
import Derived.OpenShut
import Derived.ShutString
namespace Go.Proofs.Ytdaegnmokaibpaa.groupRows
open Go.ChangeShapes Go.WideShapes Go.ChangeAt Go.RowKit
open Go.ChangeMaps (open_string shut_string)
open Pl

/-- Where a record is loaded from. -/
theorem rec_at {w w1 : World} {x : Option Addr} {n c : Nat} {rs : List Rc} (h : RRow w (.slice x n c) rs) (hb : Below w.heap.size w w1) (hn : n = rs.length) {k : Nat} (hk : k < rs.length) :
    ∃ g o, x = some ⟨g, o, none⟩ ∧ w1.cell? ⟨g, o + k * 5, none⟩ = some (.string rs[k].n) ∧ w1.cell? ⟨g, o + k * 5 + 1, none⟩ = some (.int .i64 rs[k].t) ∧ w1.cell? ⟨g, o + k * 5 + 2, none⟩ = some (.int .i64 rs[k].c) ∧ w1.cell? ⟨g, o + k * 5 + 3, none⟩ = some (.int .i64 rs[k].l) ∧ w1.cell? ⟨g, o + k * 5 + 4, none⟩ = some (.string rs[k].d) := by
  obtain ⟨g', o, cap, hx, hc⟩ := row_at (hn ▸ (h.below hb).1) (by omega)
  simp only [Value.slice.injEq] at hx
  exact ⟨g', o, hx.1, r_cells hc hk⟩

set_option maxRecDepth 20000 in
set_option maxHeartbeats 4000000 in
theorem walk (v : Value) (rs : List Rc) (w : World) (hrow : RRow w v rs) :
    Calls Try.prog 4 #[v] w fun e w' => e = .returned (.bool true) ∧ Below w.heap.size w w' := by
  obtain ⟨i0, hi, hz0, hz1, hz2⟩ := info_parts infoR'
  have hb : Below w.heap.size w w := Below.refl _ _
  obtain ⟨n, hn⟩ : ∃ n, n = rs.length := ⟨_, rfl⟩
  obtain ⟨x, c, hv⟩ := row_slice hrow.1
  rw [← hn] at hv
  subst hv
  have HR : Hid (RRow w (.slice x n c) rs) := hrow
  have HN : Hid (n = rs.length) := hn
  have hm := hrow.2.1
  rw [← hn] at hm
  unfold maxLen at hm
  clear hrow hn
  by_cases h32 : 32 < n
  · have h32' : (32 : Int) < (n : Int) := by omega
    go_enter Try.func4, Try.ntmps4
    go_wp2_with (go_at_call 21; go_must (refine (awake_any _).mono ?_); rintro e w0 ⟨rfl, b0⟩; replace hb := next hb b0; clear b0)
    go_ret
    exact ⟨rfl, hb⟩
  · have h32' : decide ((32 : Int) < (n : Int)) = false := by simp; omega
    have hn32 : n ≤ 32 := by omega
    go_enter Try.func4, Try.ntmps4
    go_wp2_with (go_at_call 21; go_must (refine (awake_any _).mono ?_); rintro e w0 ⟨rfl, b0⟩; replace hb := next hb b0; clear b0)
    go_loopw [3, 4] (fun av iv wr => ∃ (m N c1 : Nat) (y : Option Addr), av = .slice y N c1 ∧ iv = .int .i64 ((n : Int) - 1 - (m : Int)) ∧ m ≤ n ∧ Hid (N = 2 * m) ∧ Hid (wr.ownsRow w.heap.size 43 5 (.slice y N c1) N (rC (trn rs m))) ∧ Below w.heap.size w wr) (fun _ i _ => (intOf i + 1).toNat)
    case atStart => exact ⟨0, 0, 0, none, rfl, by simp, Nat.zero_le _, rfl, by unfold Hid; rw [trn_zero]; exact World.ownsRow_nil _ _ _ _, hb⟩
    case round =>
      clear hb
      obtain ⟨m, N, c1, y, rfl, rfl, hmn, HNM, HO, hb⟩ := hrel
      by_cases hlt : m < n
      · obtain ⟨k, hk⟩ : ∃ k : Nat, (n : Int) - 1 - (m : Int) = (k : Int) := ⟨n - 1 - m, by omega⟩
        have hkk : k = n - 1 - m := by omega
        have hkr : k < rs.length := by have := HN.out; omega
        obtain ⟨g, o, hx, d0, d1, d2, d3, d4⟩ := rec_at HR.out hb HN.out hkr
        subst hx
        have HT : Hid (trn rs (m + 1) = trn rs m ++ [rs[k], rs[k]]) := by
          unfold Hid
          rw [trn_succ (by have := HN.out; omega)]
          have e : rs.length - 1 - m = k := by rw [← HN.out]; exact hkk.symm
          simp only [e]
        obtain ⟨q, hq⟩ : ∃ q, q = rs[k] := ⟨_, rfl⟩
        simp only [← hq] at d0 d1 d2 d3 d4 HT
        obtain ⟨qn, qt, qc, ql, qd⟩ := q
        simp only at d0 d1 d2 d3 d4
        have hk0 : (0 : Int) ≤ (k : Int) := by omega
        have hkn : (k : Int) < (n : Int) := by omega
        have HK : Hid ((n : Int) - 1 - (m : Int) = (k : Int)) := hk
        have hrow2 : Row (wr.alloc (.cells #[.string qn, .int .i64 qt, .int .i64 qc, .int .i64 ql, .string qd, .string qn, .int .i64 qt, .int .i64 qc, .int .i64 ql, .string qd] 43)).drew (.slice (some ⟨wr.heap.size, 0, none⟩) 2 2) 2 (rC [⟨qn, qt, qc, ql, qd⟩, ⟨qn, qt, qc, ql, qd⟩]) := Row.of_blk ((Blk.new wr #[.string qn, .int .i64 qt, .int .i64 qc, .int .i64 ql, .string qd, .string qn, .int .i64 qt, .int .i64 qc, .int .i64 ql, .string qd] 43).drew ⟨1, rfl⟩) rfl 2 2
        have HO2 : (wr.alloc (.cells #[.string qn, .int .i64 qt, .int .i64 qc, .int .i64 ql, .string qd, .string qn, .int .i64 qt, .int .i64 qc, .int .i64 ql, .string qd] 43)).drew.ownsRow w.heap.size 43 5 (.slice y N c1) N (rC (trn rs m)) := HO.out.alloc _
        have HB2 : Hid (Below w.heap.size w (wr.alloc (.cells #[.string qn, .int .i64 qt, .int .i64 qc, .int .i64 ql, .string qd, .string qn, .int .i64 qt, .int .i64 qc, .int .i64 ql, .string qd] 43)).drew) := (lay hb _).drew
        have hsz : w.heap.size ≤ (wr.alloc (.cells #[.string qn, .int .i64 qt, .int .i64 qc, .int .i64 ql, .string qd, .string qn, .int .i64 qt, .int .i64 qc, .int .i64 ql, .string qd] 43)).drew.heap.size := HB2.out.size
        have hN64 : N ≤ 64 := by have := HNM.out; omega
        rw [hk]
        clear hq hk hkk
        go_wp2
        go_region_law ((refine step_appG _ (by rfl) (.tmp 25) (.tmp 34) 22 43 i0 _ 5 56 Try.underlying22 hi hz0 hz1 hz2 rfl (by decide) (by rfl) w.heap.size _ N (rC (trn rs m)) (by rfl) HO2 _ 2 (rC [⟨qn, qt, qc, ql, qd⟩, ⟨qn, qt, qc, ql, qd⟩]) (by rfl) hrow2 rfl (rC_one _) (by omega) (by unfold maxLen; omega) hsz ?_; intro v3 w3 h1 h3 _; obtain ⟨y3, c3, rfl⟩ := row_shape h1; have O3 : Hid (w3.ownsRow w.heap.size 43 5 (.slice y3 (N + 2) c3) (N + 2) (rC (trn rs m) ++ rC [⟨qn, qt, qc, ql, qd⟩, ⟨qn, qt, qc, ql, qd⟩])) := h1; have B3 : Hid (Below w.heap.size w w3) := HB2.out.grown h3 HB2.out.size (fun k e => (HO2.lt k e).1); clear h1 h3))
        all_goals
          (go_wp2
           go_roundw
           case rel => exact ⟨m + 1, N + 2, c3, y3, rfl, by have := HK.out; congr 1; omega, by omega, by unfold Hid; have := HNM.out; omega, by unfold Hid; rw [HT.out, rC_app]; exact O3.out, B3.out⟩
           case measure => simp [intOf])
      · have hmn' : m = n := by omega
        have hneg : decide ((0 : Int) ≤ (n : Int) - 1 - (m : Int)) = false := by simp; omega
        subst hmn'
        have HNB : Hid (N = 2 * m) := HNM.out
        have hN64 : N ≤ 64 := by have := HNM.out; omega
        have HMR : Hid (m = rs.length) := HN.out
        have HTR : Hid (RRow wr (.slice y N c1) (trn rs m)) := by
          have hl : (trn rs m).length = N := by rw [trn_len (by have := HMR.out; omega)]; exact HNB.out.symm
          refine ⟨by rw [hl]; exact Row.of_own HO.out, small100 (by rw [hl]; omega), fun r hr => ?_⟩
          exact HR.out.2.2 r (trn_sub hr)
        have t1 : True := trivial
        have t2 : True := trivial
        have HB0 : Hid (Below w.heap.size w wr) := hb
        cases hbad : badG rs with
        | true =>
          have hbad2 : badG (trn rs m) = true := by rw [HMR.out, trn_bad (by have := HMR.out; omega)]; exact hbad
          have G1 : Hid (∀ u : World, Below wr.heap.size wr u → Calls Try.prog 10 #[.slice x m c] u fun e w' => e = .returned (.tuple #[.slice none 0 0, .int .i64 1100]) ∧ Below u.heap.size u w') := fun u hu => group_bad _ rs u (HR.out.below (next HB0.out hu)) hbad
          have G2 : Hid (∀ u : World, Below wr.heap.size wr u → Calls Try.prog 10 #[.slice y N c1] u fun e w' => e = .returned (.tuple #[.slice none 0 0, .int .i64 1100]) ∧ Below u.heap.size u w') := fun u hu => group_bad _ (trn rs m) u (HTR.out.below hu) hbad2
          have hbb : Below wr.heap.size wr wr := Below.refl _ _
          clear hbad hbad2 hb
          go_wp2_with (first
            | (go_at_call 10; have _t := t1; go_must (refine (G1.out _ hbb).mono ?_); rintro e w1 ⟨rfl, b1⟩; replace hbb := next hbb b1; clear b1 t1)
            | (go_at_call 10; have _t := t2; go_must (refine (G2.out _ hbb).mono ?_); rintro e w2 ⟨rfl, b2⟩; replace hbb := next hbb b2; clear b2 t2)
            | (go_at_call 16; refine (num_any _ _).mono ?_; rintro e w' ⟨rfl, hw⟩; obtain rfl := hw.symm))
          go_loopw [9] (fun i wq => i = .int .i64 0 ∧ wq = w2) (fun _ _ => 0)
          case atStart => exact ⟨rfl, rfl⟩
          case round =>
            obtain ⟨rfl, rfl⟩ := hrel
            go_wp2
            go_ret
            exact ⟨rfl, next HB0.out hbb⟩
        | false =>
          have hbad2 : badG (trn rs m) = false := by rw [HMR.out, trn_bad (by have := HMR.out; omega)]; exact hbad
          have hsame := grp_same (a := rs) (b := trn rs m) (by rw [HMR.out]; exact trn_mem rs)
          have HOK : Hid (∀ r ∈ rs, okR r = true) := fun r hr => by
            unfold badG at hbad
            rw [Bool.or_eq_false_iff, List.any_eq_false] at hbad
            simpa using hbad.2 r hr
          obtain ⟨K, hK⟩ : ∃ K, K = (grpS rs).length := ⟨_, rfl⟩
          have hK32 : K ≤ 32 := by
            have h1 := (grpS_good rs).1
            have := HMR.out
            omega
          have G1 : Hid (∀ u : World, Below wr.heap.size wr u → Calls Try.prog 10 #[.slice x m c] u fun e w' => ∃ (y : Option Addr) (c : Nat) (ps : List (Sn × Value)), e = .returned (.tuple #[.slice y K c, .int .i64 0]) ∧ ps.map Prod.fst = grpS rs ∧ GS w.heap.size w' (.slice y K c) ps ∧ Below u.heap.size u w') := fun u hu => (group_ok _ rs u (HR.out.below (next HB0.out hu)) hbad).mono fun e w' ⟨y, c, ps, h1, h2, h3, h4⟩ => by
            have hl : ps.length = K := by rw [hK, ← h2, List.length_map]
            rw [hl] at h1 h3
            exact ⟨y, c, ps, h1, h2, h3.base (Nat.le_trans HB0.out.size hu.size), h4⟩
          have G2 : Hid (∀ u : World, Below wr.heap.size wr u → Calls Try.prog 10 #[.slice y N c1] u fun e w' => ∃ (y : Option Addr) (c : Nat) (ps : List (Sn × Value)), e = .returned (.tuple #[.slice y K c, .int .i64 0]) ∧ ps.map Prod.fst = grpS (trn rs m) ∧ GS w.heap.size w' (.slice y K c) ps ∧ Below u.heap.size u w') := fun u hu => (group_ok _ (trn rs m) u (HTR.out.below hu) hbad2).mono fun e w' ⟨y, c, ps, h1, h2, h3, h4⟩ => by
            have hl : ps.length = K := by rw [hK, hsame.1, ← h2, List.length_map]
            rw [hl] at h1 h3
            exact ⟨y, c, ps, h1, h2, h3.base (Nat.le_trans HB0.out.size hu.size), h4⟩
          have HSUB : Hid (∀ s ∈ grpS rs, s ∈ grpS (trn rs m)) := hsame.2
          have HK : Hid (K = (grpS rs).length ∧ K = (grpS (trn rs m)).length) := ⟨hK, by rw [hK]; exact hsame.1⟩
          have hbb : Below wr.heap.size wr wr := Below.refl _ _
          have hKK : ((K : Int) != (K : Int)) = false := by simp
          clear hbad hbad2 hb hsame hK
          go_wp2_with (first
            | (go_at_call 10; have _t := t1; go_must (refine (G1.out _ hbb).mono ?_); rintro e w1 ⟨ya, ca, ps, rfl, hps, hga, b1⟩; have HPS : Hid (ps.map Prod.fst = grpS rs) := hps; have HGA : Hid (GS w.heap.size w1 (.slice ya K ca) ps) := hga; replace hbb := next hbb b1; clear b1 t1 hps hga)
            | (go_at_call 10; have _t := t2; go_must (refine (G2.out _ hbb).mono ?_); rintro e w2 ⟨yb, cb, qs, rfl, hqs, hgb, b2⟩; have HQS : Hid (qs.map Prod.fst = grpS (trn rs m)) := hqs; have HGB : Hid (GS w.heap.size w2 (.slice yb K cb) qs) := hgb; replace HGA : Hid (GS w.heap.size w2 (.slice ya K ca) ps) := HGA.out.below b2; replace hbb := next hbb b2; clear b2 t2 hqs hgb)
            | (go_at_call 16; refine (num_any _ _).mono ?_; rintro e w' ⟨rfl, hw⟩; obtain rfl := hw.symm))
          have HB2 : Hid (Below w.heap.size w w2) := next HB0.out hbb
          have HLP : Hid (ps.length = K) := by unfold Hid; rw [HK.out.1, ← HPS.out, List.length_map]
          have HLQ : Hid (qs.length = K) := by unfold Hid; rw [HK.out.2, ← HQS.out, List.length_map]
          have HQ64 : Hid (∀ i (hi : i < qs.length), qs[i].1.ds.length ≤ 64) := fun i hi => by
            have h1 := ((grpS_good (trn rs m)).2 qs[i].1 (by rw [← HQS.out]; exact List.mem_map_of_mem (List.getElem_mem hi))).2
            rw [trn_len (by have := HMR.out; omega)] at h1
            omega
          clear hbb HB0 G1 G2 HTR HO HNM HNB
          go_loopw [9] (fun i wq => ∃ k : Nat, k ≤ K ∧ i = .int .i64 (k : Int) ∧ Below w2.heap.size w2 wq) (fun i _ => K - (intOf i).toNat)
          case atStart => exact ⟨0, Nat.zero_le _, rfl, Below.refl _ _⟩
          case round =>
            obtain ⟨k, hk, rfl, hbq⟩ := hrel
            by_cases hkn : k < K
            · have hkn' : (k : Int) < (K : Int) := by omega
              have hkp : k < ps.length := by have := HLP.out; omega
              obtain ⟨ga, cap2, hv, _, _⟩ := HGA.out.own.form (by have := HLP.out; omega)
              simp only [Value.slice.injEq] at hv
              obtain ⟨rfl, -, rfl⟩ := hv
              have hmem : ps[k].1 ∈ grpS rs := by rw [← HPS.out]; exact List.mem_map_of_mem (List.getElem_mem hkp)
              have hfacts := grp_facts HOK.out hmem
              have hds := ((grpS_good rs).2 _ hmem).2
              have HSUBK : Hid (ps[k].1 ∈ grpS (trn rs m)) := HSUB.out _ hmem
              have C4 : Hid (∀ {u : World}, Below w2.heap.size w2 u → u.cell? ⟨ga, k * 4, none⟩ = some (.string ps[k].1.n) ∧ u.cell? ⟨ga, k * 4 + 1, none⟩ = some (.int .i64 ps[k].1.t) ∧ u.cell? ⟨ga, k * 4 + 2, none⟩ = some (.int .i64 ps[k].1.l) ∧ u.cell? ⟨ga, k * 4 + 3, none⟩ = some ps[k].2) := fun h => (own_four (HGA.out.below h).own hkp).1
              have HRW : Hid (∀ {u : World}, Below w2.heap.size w2 u → Row u ps[k].2 ps[k].1.ds.length (tC ps[k].1.ds)) := fun h => (HGA.out.below h).row hkp
              have hsh := row_shape (HGA.out.dat _ (List.getElem_mem hkp))
              obtain ⟨s, hs⟩ : ∃ z, z = ps[k].1 := ⟨_, rfl⟩
              obtain ⟨sv, hsv⟩ : ∃ z, z = ps[k].2 := ⟨_, rfl⟩
              simp only [← hs, ← hsv] at C4 HRW hsh hfacts hds HSUBK
              obtain ⟨M, hM⟩ : ∃ M, M = s.ds.length := ⟨_, rfl⟩
              rw [← hM] at hsh HRW hds
              obtain ⟨ys, cs, hsv2⟩ := hsh
              subst hsv2
              obtain ⟨⟨_, hl86⟩, hdne, hfold, hname, hrise, _⟩ := hfacts
              have hM0 : 1 ≤ M := by
                rw [hM]
                exact List.length_pos_iff.2 hdne
              have hM32 : M ≤ 32 := by have := HMR.out; omega
              have HMM : Hid (M = s.ds.length) := hM
              have HRISE : Hid (Rises s.ds) := hrise
              have HFOLD : Hid (∀ u : World, Calls Try.prog 23 #[.string s.n] u fun e w' => e = .returned (.string s.n) ∧ Below u.heap.size u w') := fun u => refFold_as s.n s.n u (by have := name_size hname; unfold maxLen; omega) (by
                have := congrArg (fun z : ByteArray => z.data.toList) hfold
                simpa [foldB] using this)
              have SM : Hid (∀ {u : World} (i : Nat) (hi : i < qs.length), Below w2.heap.size w2 u → Calls Try.prog 22 #[.agg #[.string s.n, .int .i64 s.t, .int .i64 s.l, .slice ys M cs], .agg #[.string qs[i].1.n, .int .i64 qs[i].1.t, .int .i64 qs[i].1.l, qs[i].2]] u fun e w' => e = .returned (.bool (eqS s qs[i].1)) ∧ Below u.heap.size u w') := fun {u} i hi h => by
                have h64 := HQ64.out i hi
                exact sameS_any _ _ _ _ s.ds _ _ _ _ qs[i].1.ds u (by rw [← hM]; exact HRW.out h) ((HGB.out.below h).row hi) (small100 (by omega)) (small100 (by omega)) _ rfl
              obtain ⟨sn, hsn⟩ : ∃ z, z = s.n := ⟨_, rfl⟩
              obtain ⟨st, hst⟩ : ∃ z, z = s.t := ⟨_, rfl⟩
              obtain ⟨sl, hsl⟩ : ∃ z, z = s.l := ⟨_, rfl⟩
              simp only [← hsn, ← hst, ← hsl] at C4 SM HFOLD hl86
              clear hmem hs hsv hsn hst hsl hM hdne hfold hname hrise hds
              go_wp2
              go_loopw [10, 11] (fun fv jv wq => ∃ (F : Bool) (i : Nat), fv = .bool F ∧ jv = .int .i64 (i : Int) ∧ i ≤ K ∧ Hid (FoundIs F qs s i) ∧ Below w2.heap.size w2 wq) (fun _ j _ => K - (intOf j).toNat)
              case atStart => exact ⟨false, 0, rfl, rfl, Nat.zero_le _, found_none qs s, hbq⟩
              case round =>
                clear hbq
                obtain ⟨F, i, rfl, rfl, hiK, HF, hbq⟩ := hrel
                by_cases hin : i < K
                · have hin' : (i : Int) < (K : Int) := by omega
                  have hiq : i < qs.length := by have := HLQ.out; omega
                  cases F with
                  | true =>
                    have HF2 : Hid (FoundIs true qs s (i + 1)) := found_more HF.out
                    go_wp2
                    refine wp_region_bel (by kernel_rfl) (by kernel_rfl) (fun _ => ?_)
                    repeat (go_big_quiet_step (fail))
                    refine wpQuiet_nil ?_
                    intro wn hwn
                    have hbn := bel_out hwn
                    replace hbq := next hbq hbn
                    clear hwn hbn
                    go_wp2
                    go_roundw
                    case rel => exact ⟨true, i + 1, rfl, by go_num, by omega, HF2, hbq⟩
                    case measure => simp [intOf]; omega
                  | false =>
                    obtain ⟨gb, cap3, hv, _, _⟩ := HGB.out.own.form (by have := HLQ.out; omega)
                    simp only [Value.slice.injEq] at hv
                    obtain ⟨rfl, -, rfl⟩ := hv
                    have HF2 : Hid (FoundIs (eqS s qs[i].1) qs s (i + 1)) := found_next HF.out hiq
                    have D4 : Hid (∀ {u : World}, Below w2.heap.size w2 u → u.cell? ⟨gb, i * 4, none⟩ = some (.string qs[i].1.n) ∧ u.cell? ⟨gb, i * 4 + 1, none⟩ = some (.int .i64 qs[i].1.t) ∧ u.cell? ⟨gb, i * 4 + 2, none⟩ = some (.int .i64 qs[i].1.l) ∧ u.cell? ⟨gb, i * 4 + 3, none⟩ = some qs[i].2) := fun h => (own_four (HGB.out.below h).own hiq).1
                    have SMI : Hid (∀ {u : World}, Below w2.heap.size w2 u → Calls Try.prog 22 #[.agg #[.string sn, .int .i64 st, .int .i64 sl, .slice ys M cs], .agg #[.string qs[i].1.n, .int .i64 qs[i].1.t, .int .i64 qs[i].1.l, qs[i].2]] u fun e w' => e = .returned (.bool (eqS s qs[i].1)) ∧ Below u.heap.size u w') := fun h => SM.out i hiq h
                    have hshq := row_shape (HGB.out.dat _ (List.getElem_mem hiq))
                    obtain ⟨s2, hs2⟩ : ∃ z, z = qs[i].1 := ⟨_, rfl⟩
                    obtain ⟨sv2, hsv2⟩ : ∃ z, z = qs[i].2 := ⟨_, rfl⟩
                    simp only [← hs2, ← hsv2] at D4 SMI HF2 hshq
                    obtain ⟨yq, cq, hsv3⟩ := hshq
                    subst hsv3
                    obtain ⟨r, hr⟩ : ∃ r, r = eqS s s2 := ⟨_, rfl⟩
                    rw [← hr] at HF2
                    simp only [← hr] at SMI
                    obtain ⟨M2, hM2⟩ : ∃ z, z = s2.ds.length := ⟨_, rfl⟩
                    obtain ⟨n2, hn2⟩ : ∃ z, z = s2.n := ⟨_, rfl⟩
                    obtain ⟨t2, ht2⟩ : ∃ z, z = s2.t := ⟨_, rfl⟩
                    obtain ⟨l2, hl2⟩ : ∃ z, z = s2.l := ⟨_, rfl⟩
                    simp only [← hn2, ← ht2, ← hl2, ← hM2] at D4 SMI
                    have e0 : ∀ nb : Bel wr, nb.to.cell? ⟨ga, k * 4, none⟩ = some (.string sn) := fun nb => (C4.out (next hbq nb.h)).1
                    have e1 : ∀ nb : Bel wr, nb.to.cell? ⟨ga, k * 4 + 1, none⟩ = some (.int .i64 st) := fun nb => (C4.out (next hbq nb.h)).2.1
                    have e2 : ∀ nb : Bel wr, nb.to.cell? ⟨ga, k * 4 + 2, none⟩ = some (.int .i64 sl) := fun nb => (C4.out (next hbq nb.h)).2.2.1
                    have e3 : ∀ nb : Bel wr, nb.to.cell? ⟨ga, k * 4 + 3, none⟩ = some (.slice ys M cs) := fun nb => (C4.out (next hbq nb.h)).2.2.2
                    have f0 : ∀ nb : Bel wr, nb.to.cell? ⟨gb, i * 4, none⟩ = some (.string n2) := fun nb => (D4.out (next hbq nb.h)).1
                    have f1 : ∀ nb : Bel wr, nb.to.cell? ⟨gb, i * 4 + 1, none⟩ = some (.int .i64 t2) := fun nb => (D4.out (next hbq nb.h)).2.1
                    have f2 : ∀ nb : Bel wr, nb.to.cell? ⟨gb, i * 4 + 2, none⟩ = some (.int .i64 l2) := fun nb => (D4.out (next hbq nb.h)).2.2.1
                    have f3 : ∀ nb : Bel wr, nb.to.cell? ⟨gb, i * 4 + 3, none⟩ = some (.slice yq M2 cq) := fun nb => (D4.out (next hbq nb.h)).2.2.2
                    have S1 := fun nb : Bel wr => SMI.out (next hbq nb.h)
                    clear hs2 hsv2 hr hM2 hn2 ht2 hl2 HF
                    go_wp2
                    refine wp_region_bel (by kernel_rfl) (by kernel_rfl) (fun _ => ?_)
                    repeat (go_big_quiet_step ((go_at_call 22; go_must (exact bel_lays (S1 _)))))
                    refine wpQuiet_nil ?_
                    intro wn hwn
                    have hbn := bel_out hwn
                    replace hbq := next hbq hbn
                    clear hwn hbn e0 e1 e2 e3 f0 f1 f2 f3 S1
                    go_wp2
                    go_roundw
                    case rel => exact ⟨r, i + 1, by simp, by go_num, by omega, HF2, hbq⟩
                    case measure => simp [intOf]; omega
                · have hin' : decide (i < K) = false := by simpa using hin
                  have hF : F = true := by
                    refine HF.out.2 ?_
                    have h1 := HSUBK.out
                    rw [← HQS.out] at h1
                    obtain ⟨p, h2, h3⟩ := List.mem_map.1 h1
                    obtain ⟨i', h4, rfl⟩ := List.getElem_of_mem h2
                    exact ⟨i', h4, by have := HLQ.out; omega, h3.symm⟩
                  subst hF
                  have hl86' : decide ((86400 : Int) < sl) = false := by simp; omega
                  have hM0' : ((M : Int) == 0) = false := by rw [beq_eq_false_iff_ne]; omega
                  have e0 : ∀ nb : Bel wr, nb.to.cell? ⟨ga, k * 4, none⟩ = some (.string sn) := fun nb => (C4.out (next hbq nb.h)).1
                  have e2 : ∀ nb : Bel wr, nb.to.cell? ⟨ga, k * 4 + 2, none⟩ = some (.int .i64 sl) := fun nb => (C4.out (next hbq nb.h)).2.2.1
                  have e3 : ∀ nb : Bel wr, nb.to.cell? ⟨ga, k * 4 + 3, none⟩ = some (.slice ys M cs) := fun nb => (C4.out (next hbq nb.h)).2.2.2
                  go_wp2
                  refine wp_region_bel (by kernel_rfl) (by kernel_rfl) (fun _ => ?_)
                  repeat (go_big_quiet_step ((go_at_call 23; go_must (exact bel_lays (HFOLD.out _)))))
                  refine wpQuiet_nil ?_
                  intro wn hwn
                  have hbn := bel_out hwn
                  replace hbq := next hbq hbn
                  clear hwn hbn e0 e2 e3 HF
                  go_wp2
                  go_loopw [12] (fun jv wq => ∃ i : Nat, 1 ≤ i ∧ i ≤ M ∧ jv = .int .i64 (i : Int) ∧ Below w2.heap.size w2 wq) (fun j _ => M - (intOf j).toNat)
                  case atStart => exact ⟨1, Nat.le_refl _, hM0, rfl, hbq⟩
                  case round =>
                    clear hbq
                    obtain ⟨i, hi1, hiM, rfl, hbq⟩ := hrel
                    have e3 : wr.cell? ⟨ga, k * 4 + 3, none⟩ = some (.slice ys M cs) := (C4.out hbq).2.2.2
                    by_cases hin : i < M
                    · have hin' : (i : Int) < (M : Int) := by omega
                      have hids : i < s.ds.length := by have := HMM.out; omega
                      have hids1 : i - 1 < s.ds.length := by omega
                      obtain ⟨gd, od, capd, hv, hcd⟩ := row_at (HRW.out hbq) (by omega)
                      simp only [Value.slice.injEq] at hv
                      obtain ⟨rfl, -, rfl⟩ := hv
                      have p0 := hcd (i - 1) _ (tC_at hids1)
                      have p1 := hcd i _ (tC_at hids)
                      have hlt := Pairwise_at HRISE.out (i := i - 1) (j := i) hids (by omega)
                      have hge := geq_as hlt
                      obtain ⟨X, hX⟩ : ∃ z, z = s.ds[i - 1] := ⟨_, rfl⟩
                      obtain ⟨Y, hY⟩ : ∃ z, z = s.ds[i] := ⟨_, rfl⟩
                      simp only [← hX, ← hY] at p0 p1 hge
                      have hsub : (i : Int) - 1 = ((i - 1 : Nat) : Int) := by omega
                      have hi0 : (0 : Int) ≤ ((i - 1 : Nat) : Int) := by omega
                      have hin2 : ((i - 1 : Nat) : Int) < (M : Int) := by omega
                      obtain ⟨i', hi'⟩ : ∃ z, z = i - 1 := ⟨_, rfl⟩
                      rw [← hi'] at p0 hsub hi0 hin2
                      clear hcd hX hY hlt hi'
                      go_wp2
                      go_quiet (fail)
                      go_wp2
                      go_roundw
                      case rel => exact ⟨i + 1, by omega, by omega, by go_num, next hbq (below_drew ⟨_, rfl⟩)⟩
                      case measure => simp [intOf]; omega
                    · have hin' : decide (i < M) = false := by simpa using hin
                      go_wp2
                      go_roundw
                      case rel => exact ⟨k + 1, by omega, by go_num, hbq⟩
                      case measure => simp [intOf]; omega
            · have hkn' : decide (k < K) = false := by simpa using hkn
              go_wp2
              go_ret
              exact ⟨rfl, next HB2.out hbq⟩

theorem own : ownKnob Try.prog.godebug = none := by kernel_rfl
theorem laidOut : laidOutB Try.prog = true := by kernel_rfl

set_option maxRecDepth 100000 in
theorem lifted (os : Os) (started : os.Started) (H : Type) (enc : TypeId × Value → H) :
    ReturnsInHanded {} Try.checked os 4 .any (Rows.groupRowsSpec.pre6 enc Try.prog Try.f4 Rows.groupRowsRow.domain false) (Rows.groupRowsSpec.post enc Try.prog Try.f4 false true false false) := by
  refine returnsInHanded_of_change (C := Try.checked) own started (by kernel_rfl) Try.func4
    (ChangeSpec.witness6 (enc := enc) (C := Try.checked) false ⟨#[], #[.slice none 0 0], []⟩ 8 (by kernel_rfl) (by kernel_rfl) (by kernel_rfl) (by kernel_rfl)) ?_
  intro W base args ds gs before hval0 hW _ _
  have hval : ∀ (j : Nat) t v, Try.f4.params[j]? = some t → args[j]? = some v → Value.okWide Try.prog W .any base t v := hval0
  have hW' := hW
  obtain ⟨p, q, hA0, hV, rfl, hfz, hnd⟩ := hW
  have hA : DataW.TrodAll enc Try.prog W 0 (fun _ => true) true Try.f4.params.toList args.toList ds p := hA0
  rw [Try.params4] at hA hval
  obtain ⟨v0, vs0, d0, ds0, p0, q0, hargs, rfl, rfl, h0, r0⟩ := trodAll_cons hA
  obtain ⟨rfl, rfl, rfl⟩ := trodAll_nil r0
  obtain rfl : args = #[v0] := by cases args; simp_all
  obtain ⟨rfl, rfl⟩ := trodVars_none hV
  obtain ⟨a0, w0⟩ := open_rrs (hval 0 22 v0 rfl rfl) h0
  have hlt0 : ∀ x ∈ p0, x.block < W.heap.size := fun x hx => by
    have := hW'.lt x (by simp [hx])
    simpa using this
  clear hA0 hval0
  simp only [List.append_nil] at hW'
  refine (walk v0 a0  W w0).mono fun e W' ⟨he, bel⟩ => ?_
  subst he
  exact ⟨_, rfl, _, _, _, [], _, [], hW', trodAll_mk1 (shut_bool Try.underlying4 _), (trodAll_cons_mk (Below.trod laidOut (by kernel_rfl) (of_decide_eq_true (by kernel_rfl)) h0 bel hlt0) trodAll_mk0), rfl, bel.frame _, fun h => by cases h⟩

/-- The statement. -/
theorem proved : Rows.GroupRowsSaid :=
  OpenClaim.holds_of_wide 4 Try.f4 rfl rfl rfl rfl rfl rfl rfl ⟨rfl, rfl, rfl, rfl, rfl⟩ rfl rfl rfl rfl rfl (by kernel_rfl) Try.func4 (by kernel_rfl)
    (of_decide_eq_true (by kernel_rfl)) (by unfold Func.isWrapper; first | (rw [if_pos (by decide +kernel)]; kernel_rfl) | (rw [if_neg (by decide +kernel)]; exact ⟨rfl, rfl⟩))
    (fun os started H enc _ => lifted os started H enc)
#print axioms proved

end Go.Proofs.Ytdaegnmokaibpaa.groupRows
