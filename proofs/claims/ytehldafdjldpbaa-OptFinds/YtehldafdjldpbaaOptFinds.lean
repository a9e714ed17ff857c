/- OptFinds holds: for every three numbers, of a message with so many OPT records among its additionals the first is taken apart and all are counted. -/
import Derived.Test.YtehldafdjldpbaaOpL
import Derived.ProofKit
import Derived.OpenShut
import Derived.ShutString
namespace Go.Proofs.Ytehldafdjldpbaa.optFinds
open Go.ChangeShapes Go.WideShapes Go.ChangeAt Go.RowKit
open Go.ChangeMaps (open_string shut_string)

set_option maxRecDepth 20000 in
set_option maxHeartbeats 4000000 in
theorem walk (many at_ size : Int) (_ : (Lit.int .i64 many).wf = true) (_ : (Lit.int .i64 at_).wf = true) (_ : (Lit.int .i64 size).wf = true) (w : World) :
    Calls Try.prog 7 #[.int .i64 many, .int .i64 at_, .int .i64 size] w fun e w' => e = .returned (.bool true) ∧ Below w.heap.size w w' := by
  obtain ⟨i0, hi, hz0, hz1, hz2⟩ := info_parts infoR'
  have hb : Below w.heap.size w w := Below.refl _ _
  have k7 := mask many 3 (by decide)
  have k3 := mask at_ 2 (by decide)
  have k4 := mask size 12 (by decide)
  obtain ⟨k, hk⟩ : ∃ k : Nat, many % ((2 ^ 3 : Nat) : Int) = (k : Int) := ⟨(many % 8).toNat, by omega⟩
  obtain ⟨m, hm⟩ : ∃ k : Nat, at_ % ((2 ^ 2 : Nat) : Int) = (k : Int) := ⟨(at_ % 4).toNat, by omega⟩
  obtain ⟨S, hS⟩ : ∃ S, size % ((2 ^ 12 : Nat) : Int) = S := ⟨_, rfl⟩
  have hk8 : k < 8 := by omega
  have hm4 : m < 4 := by omega
  have hS0 : 0 ≤ S := by omega
  have hS1 : S < 4096 := by omega
  rw [hk] at k7
  rw [hm] at k3
  rw [hS] at k4
  rw [show ((2 ^ 3 - 1 : Nat) : Int) = 7 from rfl] at k7
  rw [show ((2 ^ 2 - 1 : Nat) : Int) = 3 from rfl] at k3
  rw [show ((2 ^ 12 - 1 : Nat) : Int) = 4095 from rfl] at k4
  clear hk hm hS
  go_enter Try.func7, Try.ntmps7
  go_wp2_with (go_at_call 19; go_must (refine (awake_any _).mono ?_); rintro e w0 ⟨rfl, bb⟩; replace hb := next hb bb; clear bb)
  have HI : Hid (MF w _ w0.heap.size (.slice none 0 0) (.slice none 0 0) (.slice none 0 0) [] [] []) := mf_new hb
  clear hb
  go_loopw [11] (fun iv wr => ∃ (i n3 c3 : Nat) (y3 : Option Addr) (ar : List Rc), i ≤ m ∧ ar.length ≤ i ∧ iv = .int .i64 (i : Int) ∧ Hid (n3 = ar.length) ∧ Hid (Rs S 0 ar) ∧ Hid (MF w wr w0.heap.size (.slice none 0 0) (.slice none 0 0) (.slice y3 n3 c3) [] [] ar)) (fun iv _ => m - (intOf iv).toNat)
  case atStart => exact ⟨0, 0, 0, none, [], Nat.zero_le _, Nat.le_refl _, rfl, rfl, rs_nil S, HI⟩
  case round =>
    clear HI
    obtain ⟨i, n3, c3, y3, ar, hi1, hal, rfl, HN, HRS, HF⟩ := hrel
    by_cases him : i < m
    · have him' : (i : Int) < (m : Int) := by omega
      have c12 : wr.cell? ⟨w0.heap.size, 12, none⟩ = some (.slice y3 n3 c3) := HF.out.msg.cell 12
      have HLT : Hid (w0.heap.size + 2 ≤ wr.heap.size) := HF.out.lt
      obtain ⟨a0, a1, a2, a3, a4⟩ := HF.out.aa.five
      unfold aR rootB at a0 a1 a2 a3 a4
      simp only at a0 a1 a2 a3 a4
      go_wp2_with (at_builtin; refine wpList_appG _ rfl (.tmp 31) (.tmp 33) 30 26 i0 _ 5 56 Try.underlying30 hi hz0 hz1 hz2 rfl (by decide) rfl (w0.heap.size + 2) (.slice y3 n3 c3) _ _ rfl (HF.out.o3.alloc _) (.slice (some ⟨wr.heap.size, 0, none⟩) 1 1) 1 (rC [aR]) rfl (lit_row (C := #[.string ⟨#[0]⟩, .int .i64 1, .int .i64 0, .int .i64 0, .string ⟨#[97, 98, 99, 100]⟩]) rfl (by simp)) rfl (rC_one [aR]) (by omega) (by unfold maxLen; omega) (by have := HLT.out; simp; omega) ?_; intro v5 w5 own5 grow5 at5; obtain ⟨y5, k5, rfl⟩ := row_shape own5; have HF5 : Hid (MF w (w5.setCell ⟨w0.heap.size, 12, none⟩ (.slice y5 (ar.length + 1) k5)) w0.heap.size (.slice none 0 0) (.slice none 0 0) (.slice y5 (ar.length + 1) k5) [] [] (ar ++ [aR])) := HF.out.app3 own5 grow5 at5; obtain ⟨c5, f5⟩ := HF.out.cell3 grow5; clear own5 grow5 at5)
      go_roundw
      case rel => exact ⟨i + 1, ar.length + 1, k5, y5, ar ++ [aR], him, by simp; omega, by go_num, by unfold Hid; simp, rs_other HRS.out, HF5⟩
      case measure => simp [intOf]; omega
    · have him' : decide (i < m) = false := by simpa using him
      have hal3 : ar.length ≤ 3 := by omega
      have HI2 : Hid (MF w wr w0.heap.size (.slice none 0 0) (.slice none 0 0) (.slice y3 n3 c3) [] [] ar) := HF
      clear HF hal hi1 him
      go_wp2
      go_loopw [12] (fun iv wr => ∃ (i n1 n2 n3 c1 c2 c3 : Nat) (y1 y2 y3 : Option Addr) (an ns ar : List Rc), i ≤ k ∧ an.length ≤ i ∧ ns.length ≤ i ∧ ar.length ≤ 3 + 2 * i ∧ iv = .int .i64 (i : Int) ∧ Hid (n3 = ar.length) ∧ Hid (Rs S i ar) ∧ Hid (MF w wr w0.heap.size (.slice y1 n1 c1) (.slice y2 n2 c2) (.slice y3 n3 c3) an ns ar)) (fun iv _ => k - (intOf iv).toNat)
      case atStart => exact ⟨0, 0, 0, n3, 0, 0, c3, none, none, y3, [], [], ar, Nat.zero_le _, Nat.le_refl _, Nat.le_refl _, hal3, rfl, HN, HRS, HI2⟩
      case round =>
        clear HI2 HRS HN hal3
        obtain ⟨i, n1, n2, n3, c1, c2, c3, y1, y2, y3, an, ns, ar, hi1, ha1, ha2, ha3, rfl, HN, HRS, HF⟩ := hrel
        by_cases hik : i < k
        · have hik' : (i : Int) < (k : Int) := by omega
          have K1 := fun u => put_r (S := S) i u hS0 hS1 (by omega)
          have t1 : True := trivial
          have t2 : True := trivial
          go_wp2_with (first
            | (go_at_call 9; go_must (refine (K1 _).mono ?_); rintro e w1 ⟨rfl, bb⟩; have HG1 : Hid (MG w (w1.alloc (.cells #[.string ⟨#[0]⟩, .int .i64 41, .int .i64 (S + (i : Int)), .int .i64 0, .string ⟨#[]⟩] 26)) w0.heap.size (.slice y1 n1 c1) (.slice y2 n2 c2) (.slice y3 n3 c3) an ns ar w1.heap.size #[.string ⟨#[0]⟩, .int .i64 41, .int .i64 (S + (i : Int)), .int .i64 0, .string ⟨#[]⟩]) := mg_new (HF.out.below bb) _; have HLT : Hid (w0.heap.size + 2 ≤ w1.heap.size + 1) := (by have := HG1.out.f.lt; unfold Hid; simpa using this); have c12 : (w1.alloc (.cells #[.string ⟨#[0]⟩, .int .i64 41, .int .i64 (S + (i : Int)), .int .i64 0, .string ⟨#[]⟩] 26)).cell? ⟨w0.heap.size, 12, none⟩ = some (.slice y3 n3 c3) := HG1.out.f.msg.cell 12; obtain ⟨r0, r1, r2, r3, r4⟩ := HG1.out.r.five'; obtain ⟨a0, a1, a2, a3, a4⟩ := HG1.out.f.aa.five; unfold aR rootB at a0 a1 a2 a3 a4; simp only at a0 a1 a2 a3 a4; clear bb)
            | (at_builtin; have _t := t1; refine wpList_appG _ rfl (.tmp 50) (.tmp 53) 30 26 i0 _ 5 56 Try.underlying30 hi hz0 hz1 hz2 rfl (by decide) rfl (w0.heap.size + 2) (.slice y3 n3 c3) _ _ rfl (HG1.out.f.o3.alloc _) (.slice (some ⟨w1.heap.size + 1, 0, none⟩) 2 2) 2 (rC [rR S i, aR]) rfl (lit_row (C := #[.string ⟨#[0]⟩, .int .i64 41, .int .i64 (S + (i : Int)), .int .i64 0, .string ⟨#[]⟩, .string ⟨#[0]⟩, .int .i64 1, .int .i64 0, .int .i64 0, .string ⟨#[97, 98, 99, 100]⟩]) rfl (by simp)) rfl (rC_one [rR S i, aR]) (by omega) (by unfold maxLen; omega) (by have := HLT.out; simp; omega) ?_; intro v5 w5 own5 grow5 at5; obtain ⟨y5, k5, rfl⟩ := row_shape own5; have HG2 : Hid (MG w (w5.setCell ⟨w0.heap.size, 12, none⟩ (.slice y5 (ar.length + 2) k5)) w0.heap.size (.slice y1 n1 c1) (.slice y2 n2 c2) (.slice y5 (ar.length + 2) k5) an ns (ar ++ [rR S i, aR]) w1.heap.size #[.string ⟨#[0]⟩, .int .i64 41, .int .i64 (S + (i : Int)), .int .i64 0, .string ⟨#[]⟩]) := HG1.out.app3 own5 grow5 at5; obtain ⟨c5, f5⟩ := HG1.out.f.cell3 grow5; replace HLT : Hid (w0.heap.size + 2 ≤ w5.heap.size) := (by have := HG2.out.f.lt; unfold Hid; simpa using this); have c11 : (w5.setCell ⟨w0.heap.size, 12, none⟩ (.slice y5 (ar.length + 2) k5)).cell? ⟨w0.heap.size, 11, none⟩ = some (.slice y2 n2 c2) := HG2.out.f.msg.cell 11; clear r0 r1 r2 r3 r4 a0 a1 a2 a3 a4 c12; obtain ⟨r0, r1, r2, r3, r4⟩ := HG2.out.r.five'; clear own5 grow5 at5 t1 _t HG1)
            | (at_builtin; have _t := t2; refine wpList_appG _ rfl (.tmp 57) (.tmp 59) 30 26 i0 _ 5 56 Try.underlying30 hi hz0 hz1 hz2 rfl (by decide) rfl (w0.heap.size + 2) (.slice y2 n2 c2) _ _ rfl (HG2.out.f.o2.alloc _) (.slice (some ⟨w5.heap.size, 0, none⟩) 1 1) 1 (rC [rR S i]) rfl (lit_row (C := #[.string ⟨#[0]⟩, .int .i64 41, .int .i64 (S + (i : Int)), .int .i64 0, .string ⟨#[]⟩]) rfl (by simp)) rfl (rC_one [rR S i]) (by omega) (by unfold maxLen; omega) (by have := HLT.out; simp; omega) ?_; intro v6 w6 own6 grow6 at6; obtain ⟨y6, k6, rfl⟩ := row_shape own6; have HG3 : Hid (MG w (w6.setCell ⟨w0.heap.size, 11, none⟩ (.slice y6 (ns.length + 1) k6)) w0.heap.size (.slice y1 n1 c1) (.slice y6 (ns.length + 1) k6) (.slice y5 (ar.length + 2) k5) an (ns ++ [rR S i]) (ar ++ [rR S i, aR]) w1.heap.size #[.string ⟨#[0]⟩, .int .i64 41, .int .i64 (S + (i : Int)), .int .i64 0, .string ⟨#[]⟩]) := HG2.out.app2 own6 grow6 at6; obtain ⟨c6, f6⟩ := HG2.out.f.cell2 grow6; replace HLT : Hid (w0.heap.size + 2 ≤ w6.heap.size) := (by have := HG3.out.f.lt; unfold Hid; simpa using this); have c10 : (w6.setCell ⟨w0.heap.size, 11, none⟩ (.slice y6 (ns.length + 1) k6)).cell? ⟨w0.heap.size, 10, none⟩ = some (.slice y1 n1 c1) := HG3.out.f.msg.cell 10; clear r0 r1 r2 r3 r4 c11 c5 f5; obtain ⟨r0, r1, r2, r3, r4⟩ := HG3.out.r.five'; clear own6 grow6 at6 t2 _t HG2)
            | (at_builtin; refine wpList_appG _ rfl (.tmp 63) (.tmp 65) 30 26 i0 _ 5 56 Try.underlying30 hi hz0 hz1 hz2 rfl (by decide) rfl (w0.heap.size + 2) (.slice y1 n1 c1) _ _ rfl (HG3.out.f.o1.alloc _) (.slice (some ⟨w6.heap.size, 0, none⟩) 1 1) 1 (rC [rR S i]) rfl (lit_row (C := #[.string ⟨#[0]⟩, .int .i64 41, .int .i64 (S + (i : Int)), .int .i64 0, .string ⟨#[]⟩]) rfl (by simp)) rfl (rC_one [rR S i]) (by omega) (by unfold maxLen; omega) (by have := HLT.out; simp; omega) ?_; intro v7 w7 own7 grow7 at7; obtain ⟨y7, k7', rfl⟩ := row_shape own7; have HG4 : Hid (MG w (w7.setCell ⟨w0.heap.size, 10, none⟩ (.slice y7 (an.length + 1) k7')) w0.heap.size (.slice y7 (an.length + 1) k7') (.slice y6 (ns.length + 1) k6) (.slice y5 (ar.length + 2) k5) (an ++ [rR S i]) (ns ++ [rR S i]) (ar ++ [rR S i, aR]) w1.heap.size #[.string ⟨#[0]⟩, .int .i64 41, .int .i64 (S + (i : Int)), .int .i64 0, .string ⟨#[]⟩]) := HG3.out.app1 own7 grow7 at7; obtain ⟨c7, f7⟩ := HG3.out.f.cell1 grow7; clear r0 r1 r2 r3 r4 c10 c6 f6; clear own7 grow7 at7 HG3))
          go_roundw
          case rel => exact ⟨i + 1, an.length + 1, ns.length + 1, ar.length + 2, k7', k6, k5, y7, y6, y5, _, _, _, hik, by simp; omega, by simp; omega, by simp; omega, by go_num, by unfold Hid; simp, rs_next HRS.out, HG4.out.f⟩
          case measure => simp [intOf]; omega
        · have hik' : decide (i < k) = false := by simpa using hik
          have HIK : Hid (i = k) := by unfold Hid; omega
          obtain ⟨z0, z1, z2, z3, z4, z5, z6, z7, z8, z9, z10, z11, z12⟩ := blk13 HF.out.msg
          unfold hdZ at z0 z1 z2 z3 z4 z5 z6 z7 z8
          simp only at z0 z1 z2 z3 z4 z5 z6 z7 z8
          have HR : Hid (RRow wr (.slice y3 n3 c3) ar) := ⟨Row.of_own HF.out.o3, by unfold maxLen; omega, fun r hr => by have := HRS.out.2 r hr; unfold maxLen; omega⟩
          have HFIN := rs_fin HRS.out hS0 hS1
          rw [HIK.out] at HFIN
          have K1 := fun u h => optFind_any hdZ (.slice none 0 0) (.slice y1 n1 c1) (.slice y2 n2 c2) (.slice y3 n3 c3) ar u h
          rw [HFIN.1, HFIN.2] at K1
          have hbw := HF.out.bel
          clear HFIN HF HRS HN hik hi1 ha1 ha2 ha3
          by_cases hk0 : k = 0
          · rw [if_pos hk0] at K1
            unfold GetOP optC otZ msgC hdZ at K1
            simp only at K1
            subst hk0
            go_wp2_with (first
              | (go_at_call 13; go_must (refine (K1 _ HR.out).mono ?_); rintro e w1 ⟨y9, n9, c9, rfl, own9, bb⟩; have hbx := next hbw bb; have HO : Hid (Row (w1.alloc (.cells #[.int .i64 0, .int .i64 0, .int .i64 0, .bool false, .int .i64 0, .slice y9 n9 c9] 24)) (.slice y9 n9 c9) 0 []) := Row.of_own (own9.alloc _); clear bb own9)
              | (go_at_call 16; go_must (refine (sameOpt_yes otZ _ _ _ HO.out (Row.nil _ _) (by decide)).mono ?_); rintro e w2 ⟨rfl, bb⟩; replace hbx := next (lay hbx _) bb; clear bb)
              | (go_at_call 15; refine (num_any _ _).mono ?_; rintro e w' ⟨rfl, hw⟩; obtain rfl := hw.symm))
            go_ret
            exact ⟨rfl, hbx⟩
          · rw [if_neg hk0] at K1
            unfold GetOP optC msgC hdZ at K1
            simp only at K1
            have hk0' : ((k : Int) == 0) = false := by simpa using hk0
            have hk1 : (0 : Int) < (k : Int) := by omega
            clear hk0
            go_wp2_with (first
              | (go_at_call 13; go_must (refine (K1 _ HR.out).mono ?_); rintro e w1 ⟨y9, n9, c9, rfl, own9, bb⟩; have hbx := next hbw bb; have HO : Hid (Row (w1.alloc (.cells #[.int .i64 S, .int .i64 0, .int .i64 0, .bool false, .int .i64 0, .slice y9 n9 c9] 24)) (.slice y9 n9 c9) 0 []) := Row.of_own (own9.alloc _); clear bb own9)
              | (go_at_call 16; go_must (refine (sameOpt_yes ⟨S, 0, 0, false, 0, []⟩ _ _ _ HO.out (Row.nil _ _) (by simp)).mono ?_); rintro e w2 ⟨rfl, bb⟩; replace hbx := next (lay hbx _) bb; clear bb)
              | (go_at_call 15; refine (num_any _ _).mono ?_; rintro e w' ⟨rfl, hw⟩; obtain rfl := hw.symm))
            go_ret
            exact ⟨rfl, hbx⟩

theorem own : ownKnob Try.prog.godebug = none := by kernel_rfl

set_option maxRecDepth 100000 in
theorem lifted (os : Os) (started : os.Started) (H : Type) (enc : TypeId × Value → H) :
    ReturnsInHanded {} Try.checked os 7 .any (Rows.optFindsSpec.pre6 enc Try.prog Try.f7 Rows.optFindsRow.domain false) (Rows.optFindsSpec.post enc Try.prog Try.f7 false true false false) := by
  refine returnsInHanded_of_change (C := Try.checked) own started (by kernel_rfl) Try.func7
    (ChangeSpec.witness6 (enc := enc) (C := Try.checked) false ⟨#[], #[.int .i64 0, .int .i64 0, .int .i64 0], []⟩ 8 (by kernel_rfl) (by kernel_rfl) (by kernel_rfl) (by kernel_rfl)) ?_
  intro W base args ds gs before hval0 hW _ _
  have hval : ∀ (j : Nat) t v, Try.f7.params[j]? = some t → args[j]? = some v → Value.okWide Try.prog W .any base t v := hval0
  have hW' := hW
  obtain ⟨p, q, hA0, hV, rfl, hfz, hnd⟩ := hW
  have hA : DataW.TrodAll enc Try.prog W 0 (fun _ => true) true Try.f7.params.toList args.toList ds p := hA0
  rw [Try.params7] at hA hval
  obtain ⟨v0, vs0, d0, ds0, p0, q0, hargs, rfl, rfl, h0, r0⟩ := trodAll_cons hA
  obtain ⟨v1, vs1, d1, ds1, p1, q1, rfl, rfl, rfl, h1, r1⟩ := trodAll_cons r0
  obtain ⟨v2, vs2, d2, ds2, p2, q2, rfl, rfl, rfl, h2, r2⟩ := trodAll_cons r1
  obtain ⟨rfl, rfl, rfl⟩ := trodAll_nil r2
  obtain rfl : args = #[v0, v1, v2] := by cases args; simp_all
  obtain ⟨rfl, rfl⟩ := trodVars_none hV
  obtain ⟨a0, rfl, rfl, rfl, w0⟩ := open_int Try.underlying3 (hval 0 3 v0 rfl rfl) h0
  obtain ⟨a1, rfl, rfl, rfl, w1⟩ := open_int Try.underlying3 (hval 1 3 v1 rfl rfl) h1
  obtain ⟨a2, rfl, rfl, rfl, w2⟩ := open_int Try.underlying3 (hval 2 3 v2 rfl rfl) h2
  clear hA0 hval0
  simp only [List.append_nil] at hW'
  refine (walk a0 a1 a2 w0 w1 w2 W ).mono fun e W' ⟨he, bel⟩ => ?_
  subst he
  exact ⟨_, rfl, _, _, _, [], [], [], hW', trodAll_mk1 (shut_bool Try.underlying4 _), (trodAll_cons_mk (shut_int Try.underlying3 w0) (trodAll_cons_mk (shut_int Try.underlying3 w1) (trodAll_cons_mk (shut_int Try.underlying3 w2) trodAll_mk0))), rfl, bel.frame _, fun h => by cases h⟩

/-- The statement. -/
theorem proved : Rows.OptFindsSaid :=
  OpenClaim.holds_of_wide 7 Try.f7 rfl rfl rfl rfl rfl rfl rfl ⟨rfl, rfl, rfl, rfl, rfl⟩ rfl rfl rfl rfl rfl (by kernel_rfl) Try.func7 (by kernel_rfl)
    (of_decide_eq_true (by kernel_rfl)) (by unfold Func.isWrapper; first | (rw [if_pos (by decide +kernel)]; kernel_rfl) | (rw [if_neg (by decide +kernel)]; exact ⟨rfl, rfl⟩))
    (fun os started H enc _ => lifted os started H enc)
#print axioms proved

end Go.Proofs.Ytehldafdjldpbaa.optFinds
