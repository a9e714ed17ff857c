/- PadAnswers holds: for every message and every room, an answer with an OPT is read again, has one, is no longer than the room, and is a multiple of 468 bytes or is cut short and says so; one without is the message, or is cut short and says so. -/
import Derived.Test.YtcapankhobnfeaaXPhC
import Derived.Test.YtcapankhobnfeaaXPhD
import Derived.Test.YtcapankhobnfeaaXPhE
import Derived.Test.YtcapankhobnfeaaXWiV
import Derived.ProofKit
import Derived.OpenShut
import Derived.SizedLaws
namespace Go.Proofs.Ytcapankhobnfeaa.padAnswers
open Go.ChangeShapes Go.WideShapes Go.ChangeAt Go.RowKit
open Pl

theorem fin_few (a : List Rc) : finN a ≤ a.length := by
  unfold finN optL
  exact List.length_filter_le _ _

theorem walk (m : Ms) (v0 v1 v2 v3 : Value) (most : Int) (_ : (Lit.int .i64 most).wf = true) (w : World) (h0 : QRow w v0 m.qs) (h1 : RRow w v1 m.an) (h2 : RRow w v2 m.ns) (h3 : RRow w v3 m.ar) :
    Calls Try.prog 6 #[.agg (msgC m.h v0 v1 v2 v3), .int .i64 most] w fun e w' => e = .returned (.bool true) ∧ Below w.heap.size w w' := by
  have hc0 : bits .and .i64 most 4095 = most % 4096 := mask most 12 (by decide)
  obtain ⟨c, hc⟩ : ∃ c : Nat, c = (most % 4096).toNat := ⟨_, rfl⟩
  have hcl : c ≤ 4095 := by omega
  have hcc : bits .and .i64 most 4095 = (c : Int) := by omega
  obtain ⟨x0, c0, rfl⟩ := row_slice h0.1
  obtain ⟨x1, c1, rfl⟩ := row_slice h1.1
  obtain ⟨x2, c2, rfl⟩ := row_slice h2.1
  obtain ⟨x3, c3, rfl⟩ := row_slice h3.1
  have F := @ans_plain m (12 + (c : Int))
  have O := @ans_opt m (12 + (c : Int))
  have N1 := @ans_none m true (12 + (c : Int))
  have N2 := @ans_none m false (12 + (c : Int))
  obtain ⟨T1, hT1⟩ : ∃ T, ansT m true (12 + (c : Int)) = T := ⟨_, rfl⟩
  obtain ⟨E1, hE1⟩ : ∃ E, ansE m true (12 + (c : Int)) = E := ⟨_, rfl⟩
  obtain ⟨T2, hT2⟩ : ∃ T, ansT m false (12 + (c : Int)) = T := ⟨_, rfl⟩
  obtain ⟨E2, hE2⟩ : ∃ E, ansE m false (12 + (c : Int)) = E := ⟨_, rfl⟩
  rw [hT1, hE1] at O N1
  rw [hT2, hE2] at F N2
  obtain ⟨⟨id, qr, op, aa, tc, rd, ra, z, rc⟩, qs, an, ns, ar⟩ := m
  obtain ⟨sb, hsb⟩ : ∃ sb, (tc && decide (an.length = 0) && decide (ns.length = 0) && decide (ar.length = 0)) = sb := ⟨_, rfl⟩
  by_cases e1 : E1 = 0
  · subst e1
    obtain ⟨⟨⟨id2, qr2, op2, aa2, tc2, rd2, ra2, z2, rc2⟩, qs2, an2, ns2, ar2⟩, a1, a2, a3, a4, a5, a6, a7⟩ := O rfl
    simp only at a6 a7
    obtain ⟨⟨os, oe, ov, ob, oz, oo⟩, ho⟩ : ∃ o, finO ar2 = o := ⟨_, rfl⟩
    have hos : 0 ≤ os := by have := fin_size ar2; rw [ho] at this; exact this
    have hN2 : finN ar2 ≤ 64 := Nat.le_trans (fin_few _) (may_few a5).2.2.2
    by_cases hmod : T1.size % 468 = 0
    · by_cases e2 : E2 = 0
      · subst e2
        obtain ⟨b1, b2, b3, b4, b5⟩ := F rfl
        rcases b5 with b5 | b5
        · exact w11 id qr op aa tc rd ra z rc qs an ns ar x0 x1 x2 x3 c0 c1 c2 c3 most c hcc hcl w h0 h1 h2 h3 T1 id2 qr2 op2 aa2 tc2 rd2 ra2 z2 rc2 qs2 an2 ns2 ar2 os oe ov ob oz oo (finN ar2) a1 a2 ⟨a4, a3⟩ a5 rfl a6 hN2 ho hos (by omega) T2 b1 b2 ⟨b5, b3⟩ b4 hT1 hE1 hT2 hE2
        · cases sb with
          | true => exact w12 id qr op aa tc rd ra z rc qs an ns ar x0 x1 x2 x3 c0 c1 c2 c3 most c hcc hcl w h0 h1 h2 h3 T1 id2 qr2 op2 aa2 tc2 rd2 ra2 z2 rc2 qs2 an2 ns2 ar2 os oe ov ob oz oo (finN ar2) a1 a2 ⟨a4, a3⟩ a5 rfl a6 hN2 ho hos (by omega) T2 b1 b2 ⟨b5, b3⟩ hsb b4 hT1 hE1 hT2 hE2
          | false => exact w13 id qr op aa tc rd ra z rc qs an ns ar x0 x1 x2 x3 c0 c1 c2 c3 most c hcc hcl w h0 h1 h2 h3 T1 id2 qr2 op2 aa2 tc2 rd2 ra2 z2 rc2 qs2 an2 ns2 ar2 os oe ov ob oz oo (finN ar2) a1 a2 ⟨a4, a3⟩ a5 rfl a6 hN2 ho hos (by omega) T2 b1 b2 ⟨b5, b3⟩ hsb b4 hT1 hE1 hT2 hE2
      · rw [N2 e2] at hT2
        exact w10 id qr op aa tc rd ra z rc qs an ns ar x0 x1 x2 x3 c0 c1 c2 c3 most c hcc hcl w h0 h1 h2 h3 T1 id2 qr2 op2 aa2 tc2 rd2 ra2 z2 rc2 qs2 an2 ns2 ar2 os oe ov ob oz oo (finN ar2) a1 a2 ⟨a4, a3⟩ a5 rfl a6 hN2 ho hos (by omega) E2 e2 hT1 hE1 hT2 hE2
    · rcases a7 with a7 | ⟨r1, r2, r3⟩
      · exact absurd a7 hmod
      · subst r1 r2 r3
        by_cases e2 : E2 = 0
        · subst e2
          obtain ⟨b1, b2, b3, b4, b5⟩ := F rfl
          rcases b5 with b5 | b5
          · exact w21 id qr op aa tc rd ra z rc qs an ns ar x0 x1 x2 x3 c0 c1 c2 c3 most c hcc hcl w h0 h1 h2 h3 T1 id2 qr2 op2 aa2 rd2 ra2 z2 rc2 qs2 [] [] ar2 os oe ov ob oz oo (finN ar2) a1 a2 ⟨a4, a3⟩ a5 rfl a6 hN2 ho hos (by omega) rfl rfl T2 b1 b2 ⟨b5, b3⟩ b4 hT1 hE1 hT2 hE2
          · cases sb with
            | true => exact w22 id qr op aa tc rd ra z rc qs an ns ar x0 x1 x2 x3 c0 c1 c2 c3 most c hcc hcl w h0 h1 h2 h3 T1 id2 qr2 op2 aa2 rd2 ra2 z2 rc2 qs2 [] [] ar2 os oe ov ob oz oo (finN ar2) a1 a2 ⟨a4, a3⟩ a5 rfl a6 hN2 ho hos (by omega) rfl rfl T2 b1 b2 ⟨b5, b3⟩ hsb b4 hT1 hE1 hT2 hE2
            | false => exact w23 id qr op aa tc rd ra z rc qs an ns ar x0 x1 x2 x3 c0 c1 c2 c3 most c hcc hcl w h0 h1 h2 h3 T1 id2 qr2 op2 aa2 rd2 ra2 z2 rc2 qs2 [] [] ar2 os oe ov ob oz oo (finN ar2) a1 a2 ⟨a4, a3⟩ a5 rfl a6 hN2 ho hos (by omega) rfl rfl T2 b1 b2 ⟨b5, b3⟩ hsb b4 hT1 hE1 hT2 hE2
        · rw [N2 e2] at hT2
          exact w20 id qr op aa tc rd ra z rc qs an ns ar x0 x1 x2 x3 c0 c1 c2 c3 most c hcc hcl w h0 h1 h2 h3 T1 id2 qr2 op2 aa2 rd2 ra2 z2 rc2 qs2 [] [] ar2 os oe ov ob oz oo (finN ar2) a1 a2 ⟨a4, a3⟩ a5 rfl a6 hN2 ho hos (by omega) rfl rfl E2 e2 hT1 hE1 hT2 hE2
  · rw [N1 e1] at hT1
    by_cases e2 : E2 = 0
    · subst e2
      obtain ⟨b1, b2, b3, b4, b5⟩ := F rfl
      rcases b5 with b5 | b5
      · exact w01 id qr op aa tc rd ra z rc qs an ns ar x0 x1 x2 x3 c0 c1 c2 c3 most c hcc hcl w h0 h1 h2 h3 E1 e1 T2 b1 b2 ⟨b5, b3⟩ b4 hT1 hE1 hT2 hE2
      · cases sb with
        | true => exact w02 id qr op aa tc rd ra z rc qs an ns ar x0 x1 x2 x3 c0 c1 c2 c3 most c hcc hcl w h0 h1 h2 h3 E1 e1 T2 b1 b2 ⟨b5, b3⟩ hsb b4 hT1 hE1 hT2 hE2
        | false => exact w03 id qr op aa tc rd ra z rc qs an ns ar x0 x1 x2 x3 c0 c1 c2 c3 most c hcc hcl w h0 h1 h2 h3 E1 e1 T2 b1 b2 ⟨b5, b3⟩ hsb b4 hT1 hE1 hT2 hE2
    · rw [N2 e2] at hT2
      exact w00 id qr op aa tc rd ra z rc qs an ns ar x0 x1 x2 x3 c0 c1 c2 c3 most c hcc hcl w h0 h1 h2 h3 E1 e1 E2 e2 hT1 hE1 hT2 hE2

theorem own : ownKnob Try.prog.godebug = none := by kernel_rfl
theorem laidOut : laidOutB Try.prog = true := by kernel_rfl

set_option maxRecDepth 100000 in
theorem lifted (os : Os) (started : os.Started) (H : Type) (enc : TypeId × Value → H) :
    ReturnsInHanded {} Try.checked os 6 .any (Rows.padAnswersSpec.pre6 enc Try.prog Try.f6 Rows.padAnswersRow.domain false) (Rows.padAnswersSpec.post enc Try.prog Try.f6 false true false false) := by
  refine returnsInHanded_of_change (C := Try.checked) own started (by kernel_rfl) Try.func6
    (ChangeSpec.witness6 (enc := enc) (C := Try.checked) false ⟨#[], #[.agg (msgC hdZ (.slice none 0 0) (.slice none 0 0) (.slice none 0 0) (.slice none 0 0)), .int .i64 0], []⟩ 8 (by kernel_rfl) (by kernel_rfl) (by kernel_rfl) (by kernel_rfl)) ?_
  intro W base args ds gs before hval0 hW _ _
  have hval : ∀ (j : Nat) t v, Try.f6.params[j]? = some t → args[j]? = some v → Value.okWide Try.prog W .any base t v := hval0
  have hW' := hW
  obtain ⟨p, q, hA0, hV, rfl, hfz, hnd⟩ := hW
  have hA : DataW.TrodAll enc Try.prog W 0 (fun _ => true) true Try.f6.params.toList args.toList ds p := hA0
  rw [Try.params6] at hA hval
  obtain ⟨v0, vs0, d0, ds0, p0, q0, hargs, rfl, rfl, h0, r0⟩ := trodAll_cons hA
  obtain ⟨v1, vs1, d1, ds1, p1, q1, rfl, rfl, rfl, h1, r1⟩ := trodAll_cons r0
  obtain ⟨rfl, rfl, rfl⟩ := trodAll_nil r1
  obtain rfl : args = #[v0, v1] := by cases args; simp_all
  obtain ⟨rfl, rfl⟩ := trodVars_none hV
  obtain ⟨a0, b00, b01, b02, b03, rfl, w00, w01, w02, w03⟩ := open_msg (hval 0 29 v0 rfl rfl) h0
  obtain ⟨a1, rfl, rfl, rfl, w1⟩ := open_int Try.underlying3 (hval 1 3 v1 rfl rfl) h1
  have hlt0 : ∀ x ∈ p0, x.block < W.heap.size := fun x hx => by
    have := hW'.lt x (by simp [hx])
    simpa using this
  clear hA0 hval0
  simp only [List.append_nil] at hW'
  refine (walk a0 b00 b01 b02 b03 a1 w1 W w00 w01 w02 w03).mono fun e W' ⟨he, bel⟩ => ?_
  subst he
  exact ⟨_, rfl, _, _, _, [], _, [], hW', trodAll_mk1 (shut_bool Try.underlying4 _), (trodAll_cons_mk (Below.trod laidOut (by kernel_rfl) (of_decide_eq_true (by kernel_rfl)) h0 bel hlt0) (trodAll_cons_mk (shut_int Try.underlying3 w1) trodAll_mk0)), rfl, bel.frame _, fun h => by cases h⟩

/-- The statement. -/
theorem proved : Rows.PadAnswersSaid :=
  OpenClaim.holds_of_wide 6 Try.f6 rfl rfl rfl rfl rfl rfl rfl ⟨rfl, rfl, rfl, rfl, rfl⟩ rfl rfl rfl rfl rfl (by kernel_rfl) Try.func6 (by kernel_rfl)
    (of_decide_eq_true (by kernel_rfl)) (by unfold Func.isWrapper; first | (rw [if_pos (by decide +kernel)]; kernel_rfl) | (rw [if_neg (by decide +kernel)]; exact ⟨rfl, rfl⟩))
    (fun os started H enc _ => lifted os started H enc)
#print axioms proved

end Go.Proofs.Ytcapankhobnfeaa.padAnswers
