/- ReplyForms holds: for every two numbers and message, package match refuses a query, another operation, more questions or none, and takes the rest. -/
import Derived.Test.YtbffnicfibfceaaXMaE
import Derived.Test.YtbffnicfibfceaaXMaF
import Derived.Test.YtbffnicfibfceaaXMaG
import Derived.Test.YtbffnicfibfceaaXMaH
import Derived.ProofKit
import Derived.OpenShut
import Derived.ShutString
namespace Go.Proofs.Ytbffnicfibfceaa.replyForms
open Go.ChangeShapes Go.WideShapes Go.ChangeAt Go.RowKit
open Go.ChangeMaps (open_string shut_string)
open Pl
open Ma

theorem walk (wrong op : Int) (m : Ms) (v0 v1 v2 v3 : Value) (_ : (Lit.int .i64 wrong).wf = true) (_ : (Lit.int .i64 op).wf = true) (w : World) (h0 : QRow w v0 m.qs) (h1 : RRow w v1 m.an) (h2 : RRow w v2 m.ns) (h3 : RRow w v3 m.ar) :
    Calls Try.prog 4 #[.int .i64 wrong, .int .i64 op, .agg (msgC m.h v0 v1 v2 v3)] w fun e w' => e = .returned (.bool true) ∧ Below w.heap.size w w' := by
  obtain ⟨⟨id, qr, op0, aa, tc, rd, ra, z, rc⟩, qs, an, ns, ar⟩ := m
  obtain ⟨x0, c0, rfl⟩ := row_slice h0.1
  obtain ⟨x1, c1, rfl⟩ := row_slice h1.1
  obtain ⟨x2, c2, rfl⟩ := row_slice h2.1
  obtain ⟨x3, c3, rfl⟩ := row_slice h3.1
  have e1 := mask op 16 (by decide)
  have e7 := mask op 3 (by decide)
  obtain ⟨K1, i1⟩ : ∃ K, bits .and .i64 wrong 1 = K := ⟨_, rfl⟩
  obtain ⟨K2, i2⟩ : ∃ K, bits .and .i64 wrong 2 = K := ⟨_, rfl⟩
  obtain ⟨K4, i4⟩ : ∃ K, bits .and .i64 wrong 4 = K := ⟨_, rfl⟩
  obtain ⟨K8, i8⟩ : ∃ K, bits .and .i64 wrong 8 = K := ⟨_, rfl⟩
  have l3 : 0 ≤ op % 8 := by omega
  have l4 : op % 8 < 8 := by omega
  by_cases j1 : K1 = 1
  · by_cases j2 : K2 = 2
    · by_cases j4 : K4 = 4
      · by_cases j8 : K8 = 8
        · rcases rf_ways ⟨⟨op % 65536, false, 1 + op % 8, true, false, false, false, 0, 3⟩, [], an, ns, ar⟩ with ⟨T, hp, hg, hr2, hT⟩ | ⟨T, E, hp, hE⟩
          · exact f1111a wrong op K1 K2 K4 K8 (op % 65536) (op % 8) id qr op0 aa tc rd ra z rc an ns ar x0 x1 x2 x3 qs.length c0 c1 c2 c3 w i1 i2 i4 i8 j1 j2 j4 j8 e1 e7 l3 l4 h1 h2 h3 T hp ((rp_at hg).2 (.inr (by first | rfl | (simp [isR]; done) | (simp [isR]; omega)))) hr2 hT
          · exact f1111b wrong op K1 K2 K4 K8 (op % 65536) (op % 8) id qr op0 aa tc rd ra z rc an ns ar x0 x1 x2 x3 qs.length c0 c1 c2 c3 w i1 i2 i4 i8 j1 j2 j4 j8 e1 e7 l3 l4 h1 h2 h3 T E hp hE
        · rcases rf_ways ⟨⟨op % 65536, false, 1 + op % 8, true, false, false, false, 0, 3⟩, [⟨⟨#[1, 97, 0]⟩, 1, 1⟩, ⟨⟨#[1, 97, 0]⟩, 1, 1⟩], an, ns, ar⟩ with ⟨T, hp, hg, hr2, hT⟩ | ⟨T, E, hp, hE⟩
          · exact f1110a wrong op K1 K2 K4 K8 (op % 65536) (op % 8) id qr op0 aa tc rd ra z rc an ns ar x0 x1 x2 x3 qs.length c0 c1 c2 c3 w i1 i2 i4 i8 j1 j2 j4 j8 e1 e7 l3 l4 h1 h2 h3 T hp ((rp_at hg).2 (.inr (by first | rfl | (simp [isR]; done) | (simp [isR]; omega)))) hr2 hT
          · exact f1110b wrong op K1 K2 K4 K8 (op % 65536) (op % 8) id qr op0 aa tc rd ra z rc an ns ar x0 x1 x2 x3 qs.length c0 c1 c2 c3 w i1 i2 i4 i8 j1 j2 j4 j8 e1 e7 l3 l4 h1 h2 h3 T E hp hE
      · by_cases j8 : K8 = 8
        · rcases rf_ways ⟨⟨op % 65536, false, 1 + op % 8, true, false, false, false, 0, 3⟩, [], an, ns, ar⟩ with ⟨T, hp, hg, hr2, hT⟩ | ⟨T, E, hp, hE⟩
          · exact f1101a wrong op K1 K2 K4 K8 (op % 65536) (op % 8) id qr op0 aa tc rd ra z rc an ns ar x0 x1 x2 x3 qs.length c0 c1 c2 c3 w i1 i2 i4 i8 j1 j2 j4 j8 e1 e7 l3 l4 h1 h2 h3 T hp ((rp_at hg).2 (.inr (by first | rfl | (simp [isR]; done) | (simp [isR]; omega)))) hr2 hT
          · exact f1101b wrong op K1 K2 K4 K8 (op % 65536) (op % 8) id qr op0 aa tc rd ra z rc an ns ar x0 x1 x2 x3 qs.length c0 c1 c2 c3 w i1 i2 i4 i8 j1 j2 j4 j8 e1 e7 l3 l4 h1 h2 h3 T E hp hE
        · rcases rf_ways ⟨⟨op % 65536, false, 1 + op % 8, true, false, false, false, 0, 3⟩, [⟨⟨#[1, 97, 0]⟩, 1, 1⟩], an, ns, ar⟩ with ⟨T, hp, hg, hr2, hT⟩ | ⟨T, E, hp, hE⟩
          · exact f1100a wrong op K1 K2 K4 K8 (op % 65536) (op % 8) id qr op0 aa tc rd ra z rc an ns ar x0 x1 x2 x3 qs.length c0 c1 c2 c3 w i1 i2 i4 i8 j1 j2 j4 j8 e1 e7 l3 l4 h1 h2 h3 T hp ((rp_at hg).2 (.inr (by first | rfl | (simp [isR]; done) | (simp [isR]; omega)))) hr2 hT
          · exact f1100b wrong op K1 K2 K4 K8 (op % 65536) (op % 8) id qr op0 aa tc rd ra z rc an ns ar x0 x1 x2 x3 qs.length c0 c1 c2 c3 w i1 i2 i4 i8 j1 j2 j4 j8 e1 e7 l3 l4 h1 h2 h3 T E hp hE
    · by_cases j4 : K4 = 4
      · by_cases j8 : K8 = 8
        · rcases rf_ways ⟨⟨op % 65536, false, 0, true, false, false, false, 0, 3⟩, [], an, ns, ar⟩ with ⟨T, hp, hg, hr2, hT⟩ | ⟨T, E, hp, hE⟩
          · exact f1011a wrong op K1 K2 K4 K8 (op % 65536) id qr op0 aa tc rd ra z rc an ns ar x0 x1 x2 x3 qs.length c0 c1 c2 c3 w i1 i2 i4 i8 j1 j2 j4 j8 e1 h1 h2 h3 T hp ((rp_at hg).2 (.inr (by first | rfl | (simp [isR]; done) | (simp [isR]; omega)))) hr2 hT
          · exact f1011b wrong op K1 K2 K4 K8 (op % 65536) id qr op0 aa tc rd ra z rc an ns ar x0 x1 x2 x3 qs.length c0 c1 c2 c3 w i1 i2 i4 i8 j1 j2 j4 j8 e1 h1 h2 h3 T E hp hE
        · rcases rf_ways ⟨⟨op % 65536, false, 0, true, false, false, false, 0, 3⟩, [⟨⟨#[1, 97, 0]⟩, 1, 1⟩, ⟨⟨#[1, 97, 0]⟩, 1, 1⟩], an, ns, ar⟩ with ⟨T, hp, hg, hr2, hT⟩ | ⟨T, E, hp, hE⟩
          · exact f1010a wrong op K1 K2 K4 K8 (op % 65536) id qr op0 aa tc rd ra z rc an ns ar x0 x1 x2 x3 qs.length c0 c1 c2 c3 w i1 i2 i4 i8 j1 j2 j4 j8 e1 h1 h2 h3 T hp ((rp_at hg).2 (.inr (by first | rfl | (simp [isR]; done) | (simp [isR]; omega)))) hr2 hT
          · exact f1010b wrong op K1 K2 K4 K8 (op % 65536) id qr op0 aa tc rd ra z rc an ns ar x0 x1 x2 x3 qs.length c0 c1 c2 c3 w i1 i2 i4 i8 j1 j2 j4 j8 e1 h1 h2 h3 T E hp hE
      · by_cases j8 : K8 = 8
        · rcases rf_ways ⟨⟨op % 65536, false, 0, true, false, false, false, 0, 3⟩, [], an, ns, ar⟩ with ⟨T, hp, hg, hr2, hT⟩ | ⟨T, E, hp, hE⟩
          · exact f1001a wrong op K1 K2 K4 K8 (op % 65536) id qr op0 aa tc rd ra z rc an ns ar x0 x1 x2 x3 qs.length c0 c1 c2 c3 w i1 i2 i4 i8 j1 j2 j4 j8 e1 h1 h2 h3 T hp ((rp_at hg).2 (.inr (by first | rfl | (simp [isR]; done) | (simp [isR]; omega)))) hr2 hT
          · exact f1001b wrong op K1 K2 K4 K8 (op % 65536) id qr op0 aa tc rd ra z rc an ns ar x0 x1 x2 x3 qs.length c0 c1 c2 c3 w i1 i2 i4 i8 j1 j2 j4 j8 e1 h1 h2 h3 T E hp hE
        · rcases rf_ways ⟨⟨op % 65536, false, 0, true, false, false, false, 0, 3⟩, [⟨⟨#[1, 97, 0]⟩, 1, 1⟩], an, ns, ar⟩ with ⟨T, hp, hg, hr2, hT⟩ | ⟨T, E, hp, hE⟩
          · exact f1000a wrong op K1 K2 K4 K8 (op % 65536) id qr op0 aa tc rd ra z rc an ns ar x0 x1 x2 x3 qs.length c0 c1 c2 c3 w i1 i2 i4 i8 j1 j2 j4 j8 e1 h1 h2 h3 T hp ((rp_at hg).2 (.inr (by first | rfl | (simp [isR]; done) | (simp [isR]; omega)))) hr2 hT
          · exact f1000b wrong op K1 K2 K4 K8 (op % 65536) id qr op0 aa tc rd ra z rc an ns ar x0 x1 x2 x3 qs.length c0 c1 c2 c3 w i1 i2 i4 i8 j1 j2 j4 j8 e1 h1 h2 h3 T E hp hE
  · by_cases j2 : K2 = 2
    · by_cases j4 : K4 = 4
      · by_cases j8 : K8 = 8
        · rcases rf_ways ⟨⟨op % 65536, true, 1 + op % 8, true, false, false, false, 0, 3⟩, [], an, ns, ar⟩ with ⟨T, hp, hg, hr2, hT⟩ | ⟨T, E, hp, hE⟩
          · exact f0111a wrong op K1 K2 K4 K8 (op % 65536) (op % 8) id qr op0 aa tc rd ra z rc an ns ar x0 x1 x2 x3 qs.length c0 c1 c2 c3 w i1 i2 i4 i8 j1 j2 j4 j8 e1 e7 l3 l4 h1 h2 h3 T hp ((rp_at hg).2 (.inr (by first | rfl | (simp [isR]; done) | (simp [isR]; omega)))) hr2 hT
          · exact f0111b wrong op K1 K2 K4 K8 (op % 65536) (op % 8) id qr op0 aa tc rd ra z rc an ns ar x0 x1 x2 x3 qs.length c0 c1 c2 c3 w i1 i2 i4 i8 j1 j2 j4 j8 e1 e7 l3 l4 h1 h2 h3 T E hp hE
        · rcases rf_ways ⟨⟨op % 65536, true, 1 + op % 8, true, false, false, false, 0, 3⟩, [⟨⟨#[1, 97, 0]⟩, 1, 1⟩, ⟨⟨#[1, 97, 0]⟩, 1, 1⟩], an, ns, ar⟩ with ⟨T, hp, hg, hr2, hT⟩ | ⟨T, E, hp, hE⟩
          · exact f0110a wrong op K1 K2 K4 K8 (op % 65536) (op % 8) id qr op0 aa tc rd ra z rc an ns ar x0 x1 x2 x3 qs.length c0 c1 c2 c3 w i1 i2 i4 i8 j1 j2 j4 j8 e1 e7 l3 l4 h1 h2 h3 T hp ((rp_at hg).2 (.inr (by first | rfl | (simp [isR]; done) | (simp [isR]; omega)))) hr2 hT
          · exact f0110b wrong op K1 K2 K4 K8 (op % 65536) (op % 8) id qr op0 aa tc rd ra z rc an ns ar x0 x1 x2 x3 qs.length c0 c1 c2 c3 w i1 i2 i4 i8 j1 j2 j4 j8 e1 e7 l3 l4 h1 h2 h3 T E hp hE
      · by_cases j8 : K8 = 8
        · rcases rf_ways ⟨⟨op % 65536, true, 1 + op % 8, true, false, false, false, 0, 3⟩, [], an, ns, ar⟩ with ⟨T, hp, hg, hr2, hT⟩ | ⟨T, E, hp, hE⟩
          · exact f0101a wrong op K1 K2 K4 K8 (op % 65536) (op % 8) id qr op0 aa tc rd ra z rc an ns ar x0 x1 x2 x3 qs.length c0 c1 c2 c3 w i1 i2 i4 i8 j1 j2 j4 j8 e1 e7 l3 l4 h1 h2 h3 T hp ((rp_at hg).2 (.inr (by first | rfl | (simp [isR]; done) | (simp [isR]; omega)))) hr2 hT
          · exact f0101b wrong op K1 K2 K4 K8 (op % 65536) (op % 8) id qr op0 aa tc rd ra z rc an ns ar x0 x1 x2 x3 qs.length c0 c1 c2 c3 w i1 i2 i4 i8 j1 j2 j4 j8 e1 e7 l3 l4 h1 h2 h3 T E hp hE
        · rcases rf_ways ⟨⟨op % 65536, true, 1 + op % 8, true, false, false, false, 0, 3⟩, [⟨⟨#[1, 97, 0]⟩, 1, 1⟩], an, ns, ar⟩ with ⟨T, hp, hg, hr2, hT⟩ | ⟨T, E, hp, hE⟩
          · exact f0100a wrong op K1 K2 K4 K8 (op % 65536) (op % 8) id qr op0 aa tc rd ra z rc an ns ar x0 x1 x2 x3 qs.length c0 c1 c2 c3 w i1 i2 i4 i8 j1 j2 j4 j8 e1 e7 l3 l4 h1 h2 h3 T hp ((rp_at hg).2 (.inr (by first | rfl | (simp [isR]; done) | (simp [isR]; omega)))) hr2 hT
          · exact f0100b wrong op K1 K2 K4 K8 (op % 65536) (op % 8) id qr op0 aa tc rd ra z rc an ns ar x0 x1 x2 x3 qs.length c0 c1 c2 c3 w i1 i2 i4 i8 j1 j2 j4 j8 e1 e7 l3 l4 h1 h2 h3 T E hp hE
    · by_cases j4 : K4 = 4
      · by_cases j8 : K8 = 8
        · rcases rf_ways ⟨⟨op % 65536, true, 0, true, false, false, false, 0, 3⟩, [], an, ns, ar⟩ with ⟨T, hp, hg, hr2, hT⟩ | ⟨T, E, hp, hE⟩
          · exact f0011a wrong op K1 K2 K4 K8 (op % 65536) id qr op0 aa tc rd ra z rc an ns ar x0 x1 x2 x3 qs.length c0 c1 c2 c3 w i1 i2 i4 i8 j1 j2 j4 j8 e1 h1 h2 h3 T hp ((rp_at hg).2 (.inr (by first | rfl | (simp [isR]; done) | (simp [isR]; omega)))) hr2 hT
          · exact f0011b wrong op K1 K2 K4 K8 (op % 65536) id qr op0 aa tc rd ra z rc an ns ar x0 x1 x2 x3 qs.length c0 c1 c2 c3 w i1 i2 i4 i8 j1 j2 j4 j8 e1 h1 h2 h3 T E hp hE
        · rcases rf_ways ⟨⟨op % 65536, true, 0, true, false, false, false, 0, 3⟩, [⟨⟨#[1, 97, 0]⟩, 1, 1⟩, ⟨⟨#[1, 97, 0]⟩, 1, 1⟩], an, ns, ar⟩ with ⟨T, hp, hg, hr2, hT⟩ | ⟨T, E, hp, hE⟩
          · exact f0010a wrong op K1 K2 K4 K8 (op % 65536) id qr op0 aa tc rd ra z rc an ns ar x0 x1 x2 x3 qs.length c0 c1 c2 c3 w i1 i2 i4 i8 j1 j2 j4 j8 e1 h1 h2 h3 T hp ((rp_at hg).2 (.inr (by first | rfl | (simp [isR]; done) | (simp [isR]; omega)))) hr2 hT
          · exact f0010b wrong op K1 K2 K4 K8 (op % 65536) id qr op0 aa tc rd ra z rc an ns ar x0 x1 x2 x3 qs.length c0 c1 c2 c3 w i1 i2 i4 i8 j1 j2 j4 j8 e1 h1 h2 h3 T E hp hE
      · by_cases j8 : K8 = 8
        · rcases rf_ways ⟨⟨op % 65536, true, 0, true, false, false, false, 0, 3⟩, [], an, ns, ar⟩ with ⟨T, hp, hg, hr2, hT⟩ | ⟨T, E, hp, hE⟩
          · exact f0001a wrong op K1 K2 K4 K8 (op % 65536) id qr op0 aa tc rd ra z rc an ns ar x0 x1 x2 x3 qs.length c0 c1 c2 c3 w i1 i2 i4 i8 j1 j2 j4 j8 e1 h1 h2 h3 T hp ((rp_at hg).2 (.inr (by first | rfl | (simp [isR]; done) | (simp [isR]; omega)))) hr2 hT
          · exact f0001b wrong op K1 K2 K4 K8 (op % 65536) id qr op0 aa tc rd ra z rc an ns ar x0 x1 x2 x3 qs.length c0 c1 c2 c3 w i1 i2 i4 i8 j1 j2 j4 j8 e1 h1 h2 h3 T E hp hE
        · rcases rf_ways ⟨⟨op % 65536, true, 0, true, false, false, false, 0, 3⟩, [⟨⟨#[1, 97, 0]⟩, 1, 1⟩], an, ns, ar⟩ with ⟨T, hp, hg, hr2, hT⟩ | ⟨T, E, hp, hE⟩
          · exact f0000a wrong op K1 K2 K4 K8 (op % 65536) id qr op0 aa tc rd ra z rc an ns ar x0 x1 x2 x3 qs.length c0 c1 c2 c3 w i1 i2 i4 i8 j1 j2 j4 j8 e1 h1 h2 h3 T hp ((rp_at hg).1 rfl rfl) hr2 hT
          · exact f0000b wrong op K1 K2 K4 K8 (op % 65536) id qr op0 aa tc rd ra z rc an ns ar x0 x1 x2 x3 qs.length c0 c1 c2 c3 w i1 i2 i4 i8 j1 j2 j4 j8 e1 h1 h2 h3 T E hp hE

theorem own : ownKnob Try.prog.godebug = none := by kernel_rfl
theorem laidOut : laidOutB Try.prog = true := by kernel_rfl

set_option maxRecDepth 100000 in
theorem lifted (os : Os) (started : os.Started) (H : Type) (enc : TypeId × Value → H) :
    ReturnsInHanded {} Try.checked os 4 .any (Rows.replyFormsSpec.pre6 enc Try.prog Try.f4 Rows.replyFormsRow.domain false) (Rows.replyFormsSpec.post enc Try.prog Try.f4 false true false false) := by
  refine returnsInHanded_of_change (C := Try.checked) own started (by kernel_rfl) Try.func4
    (ChangeSpec.witness6 (enc := enc) (C := Try.checked) false ⟨#[], #[.int .i64 0, .int .i64 0, .agg (msgC hdZ (.slice none 0 0) (.slice none 0 0) (.slice none 0 0) (.slice none 0 0))], []⟩ 8 (by kernel_rfl) (by kernel_rfl) (by kernel_rfl) (by kernel_rfl)) ?_
  intro W base args ds gs before hval0 hW _ _
  have hval : ∀ (j : Nat) t v, Try.f4.params[j]? = some t → args[j]? = some v → Value.okWide Try.prog W .any base t v := hval0
  have hW' := hW
  obtain ⟨p, q, hA0, hV, rfl, hfz, hnd⟩ := hW
  have hA : DataW.TrodAll enc Try.prog W 0 (fun _ => true) true Try.f4.params.toList args.toList ds p := hA0
  rw [Try.params4] at hA hval
  obtain ⟨v0, vs0, d0, ds0, p0, q0, hargs, rfl, rfl, h0, r0⟩ := trodAll_cons hA
  obtain ⟨v1, vs1, d1, ds1, p1, q1, rfl, rfl, rfl, h1, r1⟩ := trodAll_cons r0
  obtain ⟨v2, vs2, d2, ds2, p2, q2, rfl, rfl, rfl, h2, r2⟩ := trodAll_cons r1
  obtain ⟨rfl, rfl, rfl⟩ := trodAll_nil r2
  obtain rfl : args = #[v0, v1, v2] := by cases args; simp_all
  obtain ⟨rfl, rfl⟩ := trodVars_none hV
  obtain ⟨a0, rfl, rfl, rfl, w0⟩ := open_int Try.underlying3 (hval 0 3 v0 rfl rfl) h0
  obtain ⟨a1, rfl, rfl, rfl, w1⟩ := open_int Try.underlying3 (hval 1 3 v1 rfl rfl) h1
  obtain ⟨a2, b20, b21, b22, b23, rfl, w20, w21, w22, w23⟩ := open_msg (hval 2 27 v2 rfl rfl) h2
  have hlt2 : ∀ x ∈ p2, x.block < W.heap.size := fun x hx => by
    have := hW'.lt x (by simp [hx])
    simpa using this
  clear hA0 hval0
  simp only [List.append_nil] at hW'
  refine (walk a0 a1 a2 b20 b21 b22 b23 w0 w1 W w20 w21 w22 w23).mono fun e W' ⟨he, bel⟩ => ?_
  subst he
  exact ⟨_, rfl, _, _, _, [], _, [], hW', trodAll_mk1 (shut_bool Try.underlying4 _), (trodAll_cons_mk (shut_int Try.underlying3 w0) (trodAll_cons_mk (shut_int Try.underlying3 w1) (trodAll_cons_mk (Below.trod laidOut (by kernel_rfl) (of_decide_eq_true (by kernel_rfl)) h2 bel hlt2) trodAll_mk0))), rfl, bel.frame _, fun h => by cases h⟩

/-- The statement. -/
theorem proved : Rows.ReplyFormsSaid :=
  OpenClaim.holds_of_wide 4 Try.f4 rfl rfl rfl rfl rfl rfl rfl ⟨rfl, rfl, rfl, rfl, rfl⟩ rfl rfl rfl rfl rfl (by kernel_rfl) Try.func4 (by kernel_rfl)
    (of_decide_eq_true (by kernel_rfl)) (by unfold Func.isWrapper; first | (rw [if_pos (by decide +kernel)]; kernel_rfl) | (rw [if_neg (by decide +kernel)]; exact ⟨rfl, rfl⟩))
    (fun os started H enc _ => lifted os started H enc)
#print axioms proved

end Go.Proofs.Ytbffnicfibfceaa.replyForms
