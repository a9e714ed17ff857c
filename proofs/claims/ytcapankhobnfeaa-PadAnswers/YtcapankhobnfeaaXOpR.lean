/- What the document's GetOpt gives, of an OPT record. -/
import Derived.Test.YtcapankhobnfeaaXOpQ
namespace Go.Proofs.Ytcapankhobnfeaa
open Go.RowKit

set_option maxRecDepth 20000 in
set_option maxHeartbeats 4000000 in
theorem refGet_rest (n : ByteArray) (t c l : Int) (d : ByteArray) (w : World) (hm : mayRc ⟨n, t, c, l, d⟩ = true) :
    Calls Try.prog 21 #[.agg (rrC ⟨n, t, c, l, d⟩)] w (GetOP w (getO ⟨n, t, c, l, d⟩) (getE ⟨n, t, c, l, d⟩)) := by
  obtain ⟨i0, hi, hz0, hz1, hz2⟩ := info_parts infoO
  have hm' := hm
  unfold mayRc at hm'
  rw [← root_as] at hm'
  simp only [Bool.and_eq_true, decide_eq_true_eq] at hm'
  obtain ⟨⟨⟨⟨m1, m2⟩, m3⟩, m4⟩, m5⟩ := hm'
  have nn : (n.toList != [0]) = false := by rw [bne, m1]; rfl
  have nt : (t != 41) = false := by rw [bne, m2]; rfl
  have K1 := fun u => shortO_as c _ u m3
  have K2 := fun u => wideO_as l _ u m4
  replace m4 := fitO_iff.1 m4
  have m5' : decide ((65535 : Int) < (d.size : Int)) = false := by simp; omega
  have a1 := mask (l / 65536) 8 (by decide)
  have a2 := mask (l / 32768) 1 (by decide)
  have a3 := mask l 15 (by decide)
  obtain ⟨E, hE⟩ : ∃ x, l / 16777216 = x := ⟨_, rfl⟩
  obtain ⟨V, hV⟩ : ∃ x, l / 65536 % ((2 ^ 8 : Nat) : Int) = x := ⟨_, rfl⟩
  obtain ⟨D1, hD1⟩ : ∃ x, l / 32768 % ((2 ^ 1 : Nat) : Int) = x := ⟨_, rfl⟩
  obtain ⟨Z, hZ⟩ : ∃ x, l % ((2 ^ 15 : Nat) : Int) = x := ⟨_, rfl⟩
  obtain ⟨D, hD⟩ : ∃ x, (D1 == 1) = x := ⟨_, rfl⟩
  have HNO : Hid (rdL d.data.toList = none → getO ⟨n, t, c, l, d⟩ = otZ ∧ getE ⟨n, t, c, l, d⟩ = 800) := fun h => get_none h
  have HYES : Hid (∀ os, rdL d.data.toList = some os → getO ⟨n, t, c, l, d⟩ = ⟨c, E, V, D, Z, os⟩ ∧ getE ⟨n, t, c, l, d⟩ = 0) := fun os h => by
    obtain ⟨h1, h2⟩ := get_some hm h
    refine ⟨?_, h2⟩
    rw [h1, ← hE, ← hV, ← hD, ← hD1, ← hZ]
    rfl
  rw [hV] at a1
  rw [hD1] at a2
  rw [hZ] at a3
  rw [show ((2 ^ 8 - 1 : Nat) : Int) = 255 from rfl] at a1
  rw [show ((2 ^ 1 - 1 : Nat) : Int) = 1 from rfl] at a2
  rw [show ((2 ^ 15 - 1 : Nat) : Int) = 32767 from rfl] at a3
  have HG : Hid (GQ w _ ⟨n, t, c, l, d⟩ ⟨c, E, V, D, Z, []⟩ none 0 0) := gb_new w ⟨n, t, c, l, d⟩ ⟨c, E, V, D, Z, []⟩ rfl
  have HL : Hid (rdL d.data.toList = (rdL (d.data.toList.drop 0)).map (([] : List On) ++ ·)) := by unfold Hid; simp
  clear hV hD1 hZ hm m2 m3
  unfold rrC
  simp only
  go_enter Try.func21, Try.ntmps21
  go_wp2_with (first
    | (go_at_call 27; go_must (refine (K1 _).mono ?_); rintro e w' ⟨rfl, hw⟩; obtain rfl := hw.symm)
    | (go_at_call 43; go_must (refine (K2 _).mono ?_); rintro e w' ⟨rfl, hw⟩; obtain rfl := hw.symm))
  go_loopw [5] (fun i wr => ∃ (k m cap : Nat) (y : Option Addr) (acc : List On), k ≤ d.size ∧ acc.length ≤ k ∧ i = .int .i64 (k : Int) ∧ Hid (rdL d.data.toList = (rdL (d.data.toList.drop k)).map (acc ++ ·)) ∧ Hid (GQ w wr ⟨n, t, c, l, d⟩ ⟨c, E, V, D, Z, acc⟩ y m cap)) (fun i _ => d.size - (intOf i).toNat)
  case atStart => exact ⟨0, 0, 0, none, [], Nat.zero_le _, Nat.zero_le _, rfl, HL, HG⟩
  case round =>
    clear HG HL K1 K2 nn nt a1 a2 a3 m1 hD hE
    obtain ⟨k, m, cap, y, acc, hk, hacc, rfl, HA, HG⟩ := hrel
    have e4 : wr.cell? ⟨w.heap.size, 4, none⟩ = some (.string d) := HG.out.ka.cell 4
    have hmx : d.size ≤ maxLen := by unfold maxLen; omega
    obtain ⟨g0, g1, g2, g3, g4, g5⟩ := HG.out.kb.six
    obtain ⟨h0, h1, h2, h3, h4, h5⟩ := HG.out.kb.open6
    have t1 : True := trivial
    by_cases hks : k < d.size
    · have hks' : (k : Int) < (d.size : Int) := by omega
      by_cases h4s : k + 4 ≤ d.size
      · have N1 := fun u => num2_yes d k (k : Int) u rfl hmx (by omega)
        have N2 := fun u => num2_yes d (k + 2) ((k : Int) + 2) u (by omega) hmx (by omega)
        have HD : Hid (rdL (d.data.toList.drop k) = if (two d[k + 2] d[k + 3]).toNat ≤ (d.data.toList.drop (k + 4)).length then (rdL ((d.data.toList.drop (k + 4)).drop (two d[k + 2] d[k + 3]).toNat)).map (fun os => ⟨two d[k] d[k + 1], ⟨((d.data.toList.drop (k + 4)).take (two d[k + 2] d[k + 3]).toNat).toArray⟩⟩ :: os) else none) := by
          unfold Hid; rw [drop4 d k h4s, rdL_cons]
        have hz := two_lt d[k + 2] d[k + 3]
        have hcc := two_lt d[k] d[k + 1]
        obtain ⟨C, hC⟩ : ∃ C, C = two d[k] d[k + 1] := ⟨_, rfl⟩
        obtain ⟨L, hL⟩ : ∃ L : Nat, two d[k + 2] d[k + 3] = (L : Int) := ⟨(two d[k + 2] d[k + 3]).toNat, by omega⟩
        simp only [← hC, hL] at N1 N2 HD hz hcc
        have hdl : (d.data.toList.drop (k + 4)).length = d.size - (k + 4) := by rw [List.length_drop, data_len]
        rw [hdl, Int.toNat_natCast] at HD
        rw [show (k : Int) + 2 + 2 = (k : Int) + 4 from by omega] at N2
        clear hC hL hdl
        by_cases hfit : L ≤ d.size - (k + 4)
        · have hfit' : decide ((d.size : Int) - ((k : Int) + 4) < (L : Int)) = false := by simp; omega
          have hcut := cut_mid d (k + 4) (k + 4 + L) ((k : Int) + 4) ((k : Int) + 4 + (L : Int)) (by omega) (by omega) (by omega) (by omega)
          have HD2 : Hid (rdL d.data.toList = (rdL (d.data.toList.drop (k + 4 + L))).map ((acc ++ [⟨C, d.extract (k + 4) (k + 4 + L)⟩]) ++ ·)) := by
            unfold Hid
            rw [HA.out, HD.out, if_pos hfit, List.drop_drop, Option.map_map, ext_arr]
            congr 1
            funext os
            simp
          obtain ⟨X, hX⟩ : ∃ X, X = d.extract (k + 4) (k + 4 + L) := ⟨_, rfl⟩
          rw [← hX] at HD2 hcut
          have hn1 : k + 4 + L ≤ d.size := by omega
          have wk : IntKind.i64.wrap ((k : Int) + 4 + (L : Int)) = (k : Int) + 4 + (L : Int) := by rw [IntKind.wrap_i64]; omega
          clear hX HD HA hfit g0 g1 g2 g3 g4 g5 h0 h1 h2 h3 h4 h5
          go_wp2_with (first
            | (go_at_call 44; have _t := t1; go_must (refine (N1 _).mono ?_); rintro e w' ⟨rfl, hw⟩; obtain rfl := hw.symm; clear t1 _t)
            | (go_at_call 44; go_must (refine (N2 _).mono ?_); rintro e w' ⟨rfl, hw⟩; obtain rfl := hw.symm))
          have c5 : wr.cell? ⟨w.heap.size + 1 + 1, 5, none⟩ = some (.slice y m cap) := HG.out.kc.cell 5
          have HG2 : Hid (GQ w (wr.alloc (.cells #[.int .i64 C, .string X] 56)).drew ⟨n, t, c, l, d⟩ ⟨c, E, V, D, Z, acc⟩ y m cap) := HG.out.below (next (lay (Below.refl _ _) _) (below_drew ⟨1, rfl⟩))
          have c52 : (wr.alloc (.cells #[.int .i64 C, .string X] 56)).cell? ⟨w.heap.size + 1 + 1, 5, none⟩ = some (.slice y m cap) := (HG.out.kc.alloc _).cell 5
          have e42 : (wr.alloc (.cells #[.int .i64 C, .string X] 56)).cell? ⟨w.heap.size, 4, none⟩ = some (.string d) := (HG.out.ka.alloc _).cell 4
          have n2 : Row (wr.alloc (.cells #[.int .i64 C, .string X] 56)).drew (.slice (some ⟨wr.heap.size, 0, none⟩) 1 1) 1 (oV ⟨C, X⟩) := (Row.of_blk (Blk.new wr #[.int .i64 C, .string X] 56) rfl 1 1).below (below_drew ⟨1, rfl⟩)
          have hB0 : w.heap.size ≤ (wr.alloc (.cells #[.int .i64 C, .string X] 56)).drew.heap.size := HG2.out.bel.size
          go_region_law ((refine step_appG _ (by rfl) (.tmp 95) (.tmp 105) 48 56 i0 _ 2 24 Try.underlying48 hi hz0 hz1 hz2 rfl (by decide) (by rfl) w.heap.size (.slice y m cap) _ _ (by rfl) HG2.out.row _ 1 (oV ⟨C, X⟩) (by rfl) n2 rfl (fun u hu => oC_one [⟨C, X⟩] u (by simpa [oC] using hu)) (by simp only; omega) (by simp only; unfold maxLen; omega) hB0 ?_; intro v6 w6 own6 grow6 _; obtain ⟨y6, k6, rfl⟩ := row_shape own6; obtain ⟨mm, ff⟩ := HG2.out.cell grow6))
          all_goals
            have HG3 : Hid (GQ w (w6.setCell ⟨w.heap.size + 1 + 1, 5, none⟩ (.slice y6 (acc.length + 1) k6)) ⟨n, t, c, l, d⟩ ⟨c, E, V, D, Z, acc ++ [⟨C, X⟩]⟩ y6 (acc.length + 1) k6) := HG2.out.app (O := ⟨c, E, V, D, Z, acc⟩) own6 grow6
            clear own6 grow6 mm ff c52 e42 n2 hB0 HG2 HG c5 e4
            revert HG3
            generalize w6.setCell ⟨w.heap.size + 1 + 1, 5, none⟩ (.slice y6 (acc.length + 1) k6) = W6
            intro HG3
            go_wp2
            go_roundw
            case rel => exact ⟨k + 4 + L, acc.length + 1, k6, y6, acc ++ [⟨C, X⟩], hn1, by simp; omega, by go_num, HD2, HG3⟩
            case measure => simp [intOf]; omega
        · have hfit' : (d.size : Int) - ((k : Int) + 4) < (L : Int) := by omega
          have HF : Hid _ := HNO.out (by rw [HA.out, HD.out, if_neg hfit]; rfl)
          clear HD HA hfit
          go_wp2_with (first
            | (go_at_call 44; have _t := t1; go_must (refine (N1 _).mono ?_); rintro e w' ⟨rfl, hw⟩; obtain rfl := hw.symm; clear t1 _t)
            | (go_at_call 44; go_must (refine (N2 _).mono ?_); rintro e w' ⟨rfl, hw⟩; obtain rfl := hw.symm))
          have q := set6_blk (o := otZ) (v := .slice none 0 0) HG.out.kb
          have qb := set6_below HG.out.bel (Nat.le_succ _) HG.out.bel.size otZ (.slice none 0 0)
          change bodyPost Try.prog Try.f21 _ _ _ (set6 wr (w.heap.size + 1) otZ (.slice none 0 0))
          revert q qb
          generalize set6 wr (w.heap.size + 1) otZ (.slice none 0 0) = W
          intro q qb
          obtain ⟨q0, q1, q2, q3, q4, q5⟩ := q.six
          refine bodyPost_ret (v := .tuple #[.agg (optC otZ (.slice none 0 0)), .int .i64 800]) (by simp [results, Try.results21, go_sem, q0, q1, q2, q3, q4, q5, optC]) rfl ?_
          rw [HF.out.1, HF.out.2]
          exact ⟨_, _, _, rfl, World.ownsRow_nil _ _ _ _, qb⟩
      · have HF : Hid _ := HNO.out (by
          rw [HA.out, rdL_short (fun e => by have := congrArg List.length e; rw [List.length_drop, data_len] at this; simp at this; omega) (by rw [List.length_drop, data_len]; omega)]
          rfl)
        by_cases h2s : k + 2 ≤ d.size
        · have N1 := fun u => num2_yes d k (k : Int) u rfl hmx h2s
          have N2 := fun u => num2_no d ((k : Int) + 2) u hmx (.inr (by omega))
          obtain ⟨C, hC⟩ : ∃ C, C = two d[k] d[k + 1] := ⟨_, rfl⟩
          simp only [← hC] at N1
          clear hC
          go_wp2_with (first
            | (go_at_call 44; have _t := t1; go_must (refine (N1 _).mono ?_); rintro e w' ⟨rfl, hw⟩; obtain rfl := hw.symm; clear t1 _t)
            | (go_at_call 44; go_must (refine (N2 _).mono ?_); rintro e w' ⟨rfl, hw⟩; obtain rfl := hw.symm))
          have q := set6_blk (o := otZ) (v := .slice none 0 0) HG.out.kb
          have qb := set6_below HG.out.bel (Nat.le_succ _) HG.out.bel.size otZ (.slice none 0 0)
          change bodyPost Try.prog Try.f21 _ _ _ (set6 wr (w.heap.size + 1) otZ (.slice none 0 0))
          revert q qb
          generalize set6 wr (w.heap.size + 1) otZ (.slice none 0 0) = W
          intro q qb
          obtain ⟨q0, q1, q2, q3, q4, q5⟩ := q.six
          refine bodyPost_ret (v := .tuple #[.agg (optC otZ (.slice none 0 0)), .int .i64 800]) (by simp [results, Try.results21, go_sem, q0, q1, q2, q3, q4, q5, optC]) rfl ?_
          rw [HF.out.1, HF.out.2]
          exact ⟨_, _, _, rfl, World.ownsRow_nil _ _ _ _, qb⟩
        · have N1 := fun u => num2_no d (k : Int) u hmx (.inr (by omega))
          have N2 := fun u => num2_any d 0 u hmx
          go_wp2_with (first
            | (go_at_call 44; have _t := t1; go_must (refine (N1 _).mono ?_); rintro e w' ⟨rfl, hw⟩; obtain rfl := hw.symm; clear t1 _t)
            | (go_at_call 44; go_must (refine (N2 _).mono ?_); rintro e w' ⟨na, nb, nc, rfl, hw⟩; obtain rfl := hw.symm))
          have q := set6_blk (o := otZ) (v := .slice none 0 0) HG.out.kb
          have qb := set6_below HG.out.bel (Nat.le_succ _) HG.out.bel.size otZ (.slice none 0 0)
          change bodyPost Try.prog Try.f21 _ _ _ (set6 wr (w.heap.size + 1) otZ (.slice none 0 0))
          revert q qb
          generalize set6 wr (w.heap.size + 1) otZ (.slice none 0 0) = W
          intro q qb
          obtain ⟨q0, q1, q2, q3, q4, q5⟩ := q.six
          refine bodyPost_ret (v := .tuple #[.agg (optC otZ (.slice none 0 0)), .int .i64 800]) (by simp [results, Try.results21, go_sem, q0, q1, q2, q3, q4, q5, optC]) rfl ?_
          rw [HF.out.1, HF.out.2]
          exact ⟨_, _, _, rfl, World.ownsRow_nil _ _ _ _, qb⟩
    · have hks' : decide (k < d.size) = false := by simpa using hks
      have HF : Hid _ := HYES.out acc (by
        rw [HA.out, List.drop_of_length_le (by rw [data_len]; omega), rdL_nil]
        simp)
      obtain ⟨f0, f1, f2, f3, f4, f5⟩ := HG.out.kc.six
      simp only at f0 f1 f2 f3 f4 f5
      go_wp2
      have qt := set6_turn wr (w.heap.size + 1) ⟨c, E, V, D, Z, acc⟩ (.slice y m cap)
      have qq := set6_blk (o := ⟨c, E, V, D, Z, acc⟩) (v := .slice y m cap) HG.out.kb
      have qb := set6_below HG.out.bel (Nat.le_succ _) HG.out.bel.size ⟨c, E, V, D, Z, acc⟩ (.slice y m cap)
      have qo := qt.row HG.out.row (fun k hk e => own_sep HG.out.row HG.out.kb (by decide) (by rw [hk, e]))
      change bodyPost Try.prog Try.f21 _ _ _ (set6 wr (w.heap.size + 1) ⟨c, E, V, D, Z, acc⟩ (.slice y m cap))
      clear qt
      revert qq qb qo
      generalize set6 wr (w.heap.size + 1) ⟨c, E, V, D, Z, acc⟩ (.slice y m cap) = W
      intro qq qb qo
      obtain ⟨q0, q1, q2, q3, q4, q5⟩ := qq.six
      refine bodyPost_ret (v := .tuple #[.agg (optC ⟨c, E, V, D, Z, acc⟩ (.slice y m cap)), .int .i64 0]) (by simp [results, Try.results21, go_sem, q0, q1, q2, q3, q4, q5, optC]) rfl ?_
      rw [HF.out.1, HF.out.2]
      exact ⟨_, _, _, rfl, qo, qb⟩

theorem refGetO_any (r : Rc) (w : World) (hd : r.d.size ≤ maxLen) : Calls Try.prog 21 #[.agg (rrC r)] w (GetOP w (getO r) (getE r)) := by
  obtain ⟨n, t, c, l, d⟩ := r
  cases h : mayRc ⟨n, t, c, l, d⟩ with
  | false =>
    refine (refGet_recs n t c l d w hd h).mono fun e w' ⟨h1, h2⟩ => ?_
    rw [(getO_no h).1, (getO_no h).2]
    exact ⟨_, _, _, h1, World.ownsRow_nil _ _ _ _, h2⟩
  | true => exact refGet_rest n t c l d w h

end Go.Proofs.Ytcapankhobnfeaa
