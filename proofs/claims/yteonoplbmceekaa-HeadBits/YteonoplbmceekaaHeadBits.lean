/- HeadBits holds: for every number, the bit of that number in the header's second pair of bytes is one flag, or one bit of one small number, in its place. -/
import Derived.Test.YteonoplbmceekaaHbA
import Derived.ProofKit
import Derived.OpenShut
import Derived.ShutString
namespace Go.Proofs.Yteonoplbmceekaa.headBits
open Go.ChangeShapes Go.WideShapes Go.ChangeAt Go.RowKit
open Go.ChangeMaps (open_string shut_string)

set_option maxRecDepth 20000 in
set_option maxHeartbeats 8000000 in
theorem walk_at (y : Int) (k : Nat) (X : Int) (hi lo : UInt8) (S : ByteArray) (qr : Bool) (op : Int) (aa tc rd ra : Bool) (z rc : Int) (w : World) (m15 : bits .and .i64 y 15 = (k : Int)) (B : Bit k X hi lo S (headV 0 qr op aa tc rd ra z rc)) :
    Calls Try.prog 5 #[.int .i64 y] w fun e w' => e = .returned (.bool true) ∧ Below w.heap.size w w' := by
  obtain ⟨hk, hX0, hX1, hshl, hup, hlow, hstr, hg, hp, hcell⟩ := B
  have hb : Below w.heap.size w w := Below.refl _ _
  obtain ⟨Zc, Z, hZ, hmk, hcz⟩ := made8
  have hc2 := conv2 hi lo
  obtain ⟨P, hP⟩ : ∃ P : ByteArray, P = ⟨#[hi, lo]⟩ := ⟨_, rfl⟩
  rw [← hP] at hc2 hstr
  rw [← hZ] at hstr
  have HS : Hid (⟨#[0, 0]⟩ ++ P ++ Z = S) := hstr
  have sP : P.size = 2 := by rw [hP]; rfl
  have sZ : Z.size = 8 := by rw [hZ]; rfl
  have s1 : (⟨#[0, 0]⟩ : ByteArray).size + P.size ≤ 1000 := by rw [sP]; decide
  have s2 : (⟨#[0, 0]⟩ ++ P).size + Z.size ≤ 1000 := by rw [ByteArray.size_append, sP, sZ]; decide
  have hi8 := hi.toNat_lt
  have lo8 := lo.toNat_lt
  have y1 : IntKind.u8.wrap (hi.toNat : Int) = (hi.toNat : Int) := by simp [IntKind.wrap, IntKind.bits, IntKind.signed]; omega
  have y2 : IntKind.u8.wrap (lo.toNat : Int) = (lo.toNat : Int) := by simp [IntKind.wrap, IntKind.bits, IntKind.signed]; omega
  have k0 : (0 : Int) ≤ (k : Int) := by omega
  have k16 : (k : Int) < 16 := by omega
  unfold headV cntV at hg hp
  have q4 := eq4
  have HC2 : Hid (∀ (g : Nat) (u : World), u.heap[g]? = some (.cells #[.int .u8 (hi.toNat : Int), .int .u8 (lo.toNat : Int)] 5 (0, 0)) → (convert 39 9 (.slice (some ⟨g, 0, none⟩) 2 2)).run Try.prog u = .ok (.string P) u) := hc2
  have HCZ : Hid (∀ (g : Nat) (u : World), u.heap[g]? = some (.cells Zc 5 (0, 0)) → (convert 39 9 (.slice (some ⟨g, 0, none⟩) 8 8)).run Try.prog u = .ok (.string Z) u) := hcz
  have HCE : Hid (∀ i, i < 9 → allV[k * 9 + i]? = (headV 0 qr op aa tc rd ra z rc)[i]?) := hcell
  clear hP hZ hc2 hcz hstr hcell
  go_enter Try.func5, Try.ntmps5
  go_wp2_with (first
    | (go_at_call 12; go_must (refine (awake_any _).mono ?_); rintro e w0 ⟨rfl, b0⟩; replace hb := next hb b0; clear b0))
  have k1 := HC2.out w0.heap.size (w0.alloc (.cells #[.int .u8 (hi.toNat : Int), .int .u8 (lo.toNat : Int)] 5)).drew (heap_alloc_new w0 _)
  have k2 := HC2.out w0.heap.size ((w0.alloc (.cells #[.int .u8 (hi.toNat : Int), .int .u8 (lo.toNat : Int)] 5)).alloc (.cells Zc 5)).drew ((Blk.new w0 _ _).alloc _)
  have k3 := HC2.out (w0.heap.size + 1) ((w0.alloc (.cells Zc 5)).alloc (.cells #[.int .u8 (hi.toNat : Int), .int .u8 (lo.toNat : Int)] 5)).drew (by have := heap_alloc_new (w0.alloc (.cells Zc 5)) (.cells #[.int .u8 (hi.toNat : Int), .int .u8 (lo.toNat : Int)] 5); rwa [show (w0.alloc (.cells Zc 5)).heap.size = w0.heap.size + 1 from by simp] at this)
  have k4 := HCZ.out w0.heap.size (w0.alloc (.cells Zc 5)).drew (heap_alloc_new w0 _)
  have k5 := HCZ.out w0.heap.size ((w0.alloc (.cells Zc 5)).alloc (.cells #[.int .u8 (hi.toNat : Int), .int .u8 (lo.toNat : Int)] 5)).drew ((Blk.new w0 _ _).alloc _)
  have k6 := HCZ.out (w0.heap.size + 1) ((w0.alloc (.cells #[.int .u8 (hi.toNat : Int), .int .u8 (lo.toNat : Int)] 5)).alloc (.cells Zc 5)).drew (by have := heap_alloc_new (w0.alloc (.cells #[.int .u8 (hi.toNat : Int), .int .u8 (lo.toNat : Int)] 5)) (.cells Zc 5); rwa [show (w0.alloc (.cells #[.int .u8 (hi.toNat : Int), .int .u8 (lo.toNat : Int)] 5)).heap.size = w0.heap.size + 1 from by simp] at this)
  simp only [hshl]
  go_cut [5] (fun x wx => x = .string S ∧ Below w.heap.size w wx)
  case first =>
    go_region_held (fun _ => True) (trivial) (fail)
    all_goals (go_wp2_with fail; go_meet; exact ⟨congrArg Value.string HS.out, next (lay (lay hb _) _) (below_drew ⟨1, rfl⟩)⟩)
  case rest =>
  obtain ⟨rfl, hbc⟩ := hcut
  clear k1 k2 k3 k4 k5 k6 HC2 HCZ hmk hb
  go_upto_region 7 with (first
    | (go_at_call 9; go_must (refine (hg _).mono ?_); rintro e w1 ⟨rfl, b1⟩; replace hbc := next hbc b1; clear b1))
  have e1 : (w1.alloc (.cells (headV 0 qr op aa tc rd ra z rc) 23)).heap.size = w1.heap.size + 1 := by simp
  have e2 : ((w1.alloc (.cells (headV 0 qr op aa tc rd ra z rc) 23)).alloc (.cells (cntV 0 0 0 0) 24)).heap.size = w1.heap.size + 1 + 1 := by simp
  have b1 := ((Blk.new w1 (headV 0 qr op aa tc rd ra z rc) 23).alloc (.cells (cntV 0 0 0 0) 24)).alloc (.cells allV 23)
  have b2 := (Blk.new (w1.alloc (.cells (headV 0 qr op aa tc rd ra z rc) 23)) (cntV 0 0 0 0) 24).alloc (.cells allV 23)
  have b3 := Blk.new ((w1.alloc (.cells (headV 0 qr op aa tc rd ra z rc) 23)).alloc (.cells (cntV 0 0 0 0) 24)) allV 23
  have b4 := lay (lay (lay hbc (.cells (headV 0 qr op aa tc rd ra z rc) 23)) (.cells (cntV 0 0 0 0) 24)) (.cells allV 23)
  rw [e1] at b2
  rw [e2] at b3
  have HB : Hid (_ ∧ _ ∧ _ ∧ _) := ⟨b1, b2, b3, b4⟩
  clear b1 b2 b3 b4 e1 e2 hbc
  go_cut [9] (fun x wx => x = .slice (some ⟨w1.heap.size + 1 + 1, 0, none⟩) 16 16 ∧ Hid (Blk wx w1.heap.size (headV 0 qr op aa tc rd ra z rc) 23 ∧ Blk wx (w1.heap.size + 1) (cntV 0 0 0 0) 24 ∧ Blk wx (w1.heap.size + 1 + 1) allV 23 ∧ Below w.heap.size w wx))
  case first =>
    go_wp2_with fail
    go_meet
    exact ⟨rfl, HB⟩
  case rest =>
  clear HB
  obtain ⟨rfl, HB⟩ := hcut
  obtain ⟨b1, b2, b3, b4⟩ := HB.out
  clear HB
  have a0 : wc.cell? ⟨w1.heap.size + 1 + 1, k * 9, none⟩ = some (.int .i64 0) := (b3.cell (k * 9 + 0)).trans (HCE.out 0 (by decide))
  have a1 : wc.cell? ⟨w1.heap.size + 1 + 1, k * 9 + 1, none⟩ = some (.bool qr) := (b3.cell (k * 9 + 1)).trans (HCE.out 1 (by decide))
  have a2 : wc.cell? ⟨w1.heap.size + 1 + 1, k * 9 + 2, none⟩ = some (.int .i64 op) := (b3.cell (k * 9 + 2)).trans (HCE.out 2 (by decide))
  have a3 : wc.cell? ⟨w1.heap.size + 1 + 1, k * 9 + 3, none⟩ = some (.bool aa) := (b3.cell (k * 9 + 3)).trans (HCE.out 3 (by decide))
  have a4 : wc.cell? ⟨w1.heap.size + 1 + 1, k * 9 + 4, none⟩ = some (.bool tc) := (b3.cell (k * 9 + 4)).trans (HCE.out 4 (by decide))
  have a5 : wc.cell? ⟨w1.heap.size + 1 + 1, k * 9 + 5, none⟩ = some (.bool rd) := (b3.cell (k * 9 + 5)).trans (HCE.out 5 (by decide))
  have a6 : wc.cell? ⟨w1.heap.size + 1 + 1, k * 9 + 6, none⟩ = some (.bool ra) := (b3.cell (k * 9 + 6)).trans (HCE.out 6 (by decide))
  have a7 : wc.cell? ⟨w1.heap.size + 1 + 1, k * 9 + 7, none⟩ = some (.int .i64 z) := (b3.cell (k * 9 + 7)).trans (HCE.out 7 (by decide))
  have a8 : wc.cell? ⟨w1.heap.size + 1 + 1, k * 9 + 8, none⟩ = some (.int .i64 rc) := (b3.cell (k * 9 + 8)).trans (HCE.out 8 (by decide))
  go_wp2_with (first
    | (go_at_call 7; go_must (refine (hp _).mono ?_); rintro e w2 ⟨rfl, b5⟩; replace b1 := b1.below b5; replace b2 := b2.below b5; replace b3 := b3.below b5; replace b4 := next b4 b5; clear a0 a1 a2 a3 a4 a5 a6 a7 a8 b5))
  have a0 : w2.cell? ⟨w1.heap.size + 1 + 1, k * 9, none⟩ = some (.int .i64 0) := (b3.cell (k * 9 + 0)).trans (HCE.out 0 (by decide))
  have a1 : w2.cell? ⟨w1.heap.size + 1 + 1, k * 9 + 1, none⟩ = some (.bool qr) := (b3.cell (k * 9 + 1)).trans (HCE.out 1 (by decide))
  have a2 : w2.cell? ⟨w1.heap.size + 1 + 1, k * 9 + 2, none⟩ = some (.int .i64 op) := (b3.cell (k * 9 + 2)).trans (HCE.out 2 (by decide))
  have a3 : w2.cell? ⟨w1.heap.size + 1 + 1, k * 9 + 3, none⟩ = some (.bool aa) := (b3.cell (k * 9 + 3)).trans (HCE.out 3 (by decide))
  have a4 : w2.cell? ⟨w1.heap.size + 1 + 1, k * 9 + 4, none⟩ = some (.bool tc) := (b3.cell (k * 9 + 4)).trans (HCE.out 4 (by decide))
  have a5 : w2.cell? ⟨w1.heap.size + 1 + 1, k * 9 + 5, none⟩ = some (.bool rd) := (b3.cell (k * 9 + 5)).trans (HCE.out 5 (by decide))
  have a6 : w2.cell? ⟨w1.heap.size + 1 + 1, k * 9 + 6, none⟩ = some (.bool ra) := (b3.cell (k * 9 + 6)).trans (HCE.out 6 (by decide))
  have a7 : w2.cell? ⟨w1.heap.size + 1 + 1, k * 9 + 7, none⟩ = some (.int .i64 z) := (b3.cell (k * 9 + 7)).trans (HCE.out 7 (by decide))
  have a8 : w2.cell? ⟨w1.heap.size + 1 + 1, k * 9 + 8, none⟩ = some (.int .i64 rc) := (b3.cell (k * 9 + 8)).trans (HCE.out 8 (by decide))
  obtain ⟨c0, c1, c2, c3, c4, c5, c6, c7, c8⟩ := Blk.nine b1
  obtain ⟨d0, d1, d2, d3⟩ := Blk.four b2
  clear hg hp
  go_quiet ((go_at_call 11; exact Calls.quiet_of_same (num_any _ _)))

  go_wp2
  go_ret
  exact ⟨rfl, next b4 (below_drew ⟨_, rfl⟩)⟩

theorem walk (y : Int) (_ : (Lit.int .i64 y).wf = true) (w : World) :
    Calls Try.prog 5 #[.int .i64 y] w fun e w' => e = .returned (.bool true) ∧ Below w.heap.size w w' := by
  have m := mask y 4 (by decide)
  obtain ⟨k, hk⟩ : ∃ k : Nat, y % ((2 ^ 4 : Nat) : Int) = (k : Int) := ⟨(y % 16).toNat, by omega⟩
  rw [hk] at m
  obtain ⟨X, hi, lo, S, qr, op, aa, tc, rd, ra, z, rc, B⟩ := bit_any k (by omega)
  exact walk_at y k X hi lo S qr op aa tc rd ra z rc w m B

theorem own : ownKnob Try.prog.godebug = none := by kernel_rfl

set_option maxRecDepth 100000 in
theorem lifted (os : Os) (started : os.Started) (H : Type) (enc : TypeId × Value → H) :
    ReturnsInHanded {} Try.checked os 5 .any (Rows.headBitsSpec.pre6 enc Try.prog Try.f5 Rows.headBitsRow.domain false) (Rows.headBitsSpec.post enc Try.prog Try.f5 false true false false) := by
  refine returnsInHanded_of_change (C := Try.checked) own started (by kernel_rfl) Try.func5
    (ChangeSpec.witness6 (enc := enc) (C := Try.checked) false ⟨#[], #[.int .i64 0], []⟩ 8 (by kernel_rfl) (by kernel_rfl) (by kernel_rfl) (by kernel_rfl)) ?_
  intro W base args ds gs before hval0 hW _ _
  have hval : ∀ (j : Nat) t v, Try.f5.params[j]? = some t → args[j]? = some v → Value.okWide Try.prog W .any base t v := hval0
  have hW' := hW
  obtain ⟨p, q, hA0, hV, rfl, hfz, hnd⟩ := hW
  have hA : DataW.TrodAll enc Try.prog W 0 (fun _ => true) true Try.f5.params.toList args.toList ds p := hA0
  rw [Try.params5] at hA hval
  obtain ⟨v0, vs0, d0, ds0, p0, q0, hargs, rfl, rfl, h0, r0⟩ := trodAll_cons hA
  obtain ⟨rfl, rfl, rfl⟩ := trodAll_nil r0
  obtain rfl : args = #[v0] := by cases args; simp_all
  obtain ⟨rfl, rfl⟩ := trodVars_none hV
  obtain ⟨a0, rfl, rfl, rfl, w0⟩ := open_int Try.underlying3 (hval 0 3 v0 rfl rfl) h0
  clear hA0 hval0
  simp only [List.append_nil] at hW'
  refine (walk a0 w0 W ).mono fun e W' ⟨he, bel⟩ => ?_
  subst he
  exact ⟨_, rfl, _, _, _, [], [], [], hW', trodAll_mk1 (shut_bool Try.underlying4 _), (trodAll_cons_mk (shut_int Try.underlying3 w0) trodAll_mk0), rfl, bel.frame _, fun h => by cases h⟩

/-- The statement. -/
theorem proved : Rows.HeadBitsSaid :=
  OpenClaim.holds_of_wide 5 Try.f5 rfl rfl rfl rfl rfl rfl rfl ⟨rfl, rfl, rfl, rfl, rfl⟩ rfl rfl rfl rfl rfl (by kernel_rfl) Try.func5 (by kernel_rfl)
    (of_decide_eq_true (by kernel_rfl)) (by unfold Func.isWrapper; first | (rw [if_pos (by decide +kernel)]; kernel_rfl) | (rw [if_neg (by decide +kernel)]; exact ⟨rfl, rfl⟩))
    (fun os started H enc _ => lifted os started H enc)
#print axioms proved

end Go.Proofs.Yteonoplbmceekaa.headBits
