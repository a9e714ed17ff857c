/- QminFull holds: for every name, a task that fell back, or of which all is known, is asked whole, with its own type. -/
import Derived.Test.YtnjlfbcfnmdkkaaQmG
import Derived.Test.YtnjlfbcfnmdkkaaQmH
import Derived.Test.YtnjlfbcfnmdkkaaQmF
namespace Go.Proofs.Ytnjlfbcfnmdkkaa.qminFull
open Go.ChangeShapes Go.WideShapes Go.ChangeAt Go.RowKit
open Go.ChangeMaps (open_string shut_string)
open Pl

theorem full_next {n F : ByteArray} {k : Nat} {ty s c o : Int} {fb : Bool} (h : isName n.data.toList = true) (hk : k ≤ (labs n.data.toList).length) (hF : F.data.toList = lastN n.data.toList k) (hw : fb = true ∨ k = (labs n.data.toList).length)
    (t1 : 1 ≤ ty ∧ ty ≤ 65535) (s1 : 0 ≤ s ∧ s ≤ 1000) (c1 : 0 ≤ c ∧ c ≤ 1000) (o1 : 0 ≤ o ∧ o ≤ 1000) :
    Qm.nextV ⟨n, ty, ⟨#[]⟩, F, s, fb, 0, 0⟩ c o = .tuple #[.agg #[.string (Qm.foldB n), .int .i64 ty], .int .i64 0] := by
  obtain ⟨a1, a2, a3⟩ := last_name h k hk
  have hab : aboveB F.data.toList n.data.toList = true := by
    rw [above_iff, hF]
    refine ⟨a1, h, ?_⟩
    rw [fl_last h k hk]
    exact List.take_prefix _ _
  have hFl : (labs F.data.toList).length = k := by rw [hF, ← (enc_of a1).2.2.1]; exact a3
  have h127 := few h
  have hyes : Qm.mayT ⟨n, ty, ⟨#[]⟩, F, s, fb, 0, 0⟩ c o = true := by
    refine Qm.mayT_yes hab t1.1 t1.2 (Qm.mayS_iff.2 ?_)
    unfold Qm.leftI Qm.lN
    simp only [hFl]
    omega
  have hz := (Qm.szI_in (s := s) (l := Qm.leftI ⟨n, ty, ⟨#[]⟩, F, s, fb, 0, 0⟩) (c := c) (o := o) (by unfold Qm.leftI; omega)).1
  have hcond : fb = true ∨ Qm.lN n.data.toList ≤ Qm.lN F.data.toList + Qm.szI s (Qm.leftI ⟨n, ty, ⟨#[]⟩, F, s, fb, 0, 0⟩) c o := by
    rcases hw with hw | hw
    · exact .inl hw
    · right
      unfold Qm.lN
      rw [hFl, ← hw]
      omega
  have ht : Qm.toldN ⟨n, ty, ⟨#[]⟩, F, s, fb, 0, 0⟩ c o = (labs n.data.toList).length := by unfold Qm.toldN; exact if_pos hcond
  have hty : Qm.typeI ⟨n, ty, ⟨#[]⟩, F, s, fb, 0, 0⟩ c o = ty := by unfold Qm.typeI; exact if_pos hcond
  rw [Qm.nextV_yes hyes, hty]
  unfold Qm.toldB
  rw [ht]
  show Value.tuple #[Qm.stV (Qm.lastB n (labs n.data.toList).length) ty, .int .i64 0] = _
  rw [Qm.last_all h]
  rfl

set_option maxRecDepth 20000 in
set_option maxHeartbeats 4000000 in
theorem walk (n : ByteArray) (kn t : Int) (fb : Bool) (hn : n.size ≤ maxLen) (_ : (Lit.int .i64 kn).wf = true) (_ : (Lit.int .i64 t).wf = true) (w : World) :
    Calls Try.prog 8 #[.string n, .int .i64 kn, .int .i64 t, .bool fb] w fun e w' => e = .returned (.bool true) ∧ Below w.heap.size w w' := by
  cases hm : isName n.data.toList with
  | false =>
    go_enter Try.func8, Try.ntmps8
    go_wp2_with (first
      | (go_at_call 14; go_must (refine (Qm.awake_any _).mono ?_); rintro e w1 ⟨rfl, b1⟩)
      | (go_at_call 19; go_must (refine (refMay_as _ false _ hn hm).mono ?_); rintro e w2 ⟨rfl, b2⟩))
    go_ret
    exact ⟨rfl, next b1 b2⟩
  | true =>
    obtain ⟨A, hA⟩ : ∃ A, A = (labs n.data.toList).length := ⟨_, rfl⟩
    have hA127 : A ≤ 127 := by rw [hA]; exact few hm
    have HC : Hid (∀ u, Calls Try.prog 18 #[.string n] u fun e w' => e = .returned (.int .i64 (A : Int)) ∧ Below u.heap.size u w') := fun u => refCount_as _ A u hn (by rw [hA]; exact (enc_of hm).2.2.1)
    have hU : 0 ≤ IntKind.u64.wrap kn := by
      have : IntKind.u64.wrap kn = kn % 18446744073709551616 := by simp [IntKind.wrap, IntKind.bits, IntKind.signed]
      omega
    obtain ⟨R, hR⟩ : ∃ R : Nat, (IntKind.u64.wrap kn).tmod ((A : Int) + 1) = (R : Int) := ⟨((IntKind.u64.wrap kn).tmod ((A : Int) + 1)).toNat, by rw [Int.toNat_of_nonneg (Int.tmod_nonneg _ hU)]⟩
    have hRA : R ≤ A := by
      have := Int.tmod_lt_of_pos (IntKind.u64.wrap kn) (show (0 : Int) < (A : Int) + 1 by omega)
      omega
    have HRW : Hid (wrap64 ((IntKind.u64.wrap kn).tmod ((A : Int) + 1)) = (R : Int)) := by
      unfold Hid
      rw [hR]
      unfold wrap64
      omega
    obtain ⟨ty, hty⟩ : ∃ ty, ty = 1 + t % 1024 := ⟨_, rfl⟩
    have m1 : bits .and .i64 t 1023 = t % 1024 := mask t 10 (by decide)
    have ty1 : 1 ≤ ty ∧ ty ≤ 65535 := by omega
    obtain ⟨s, hs⟩ : ∃ s, s = (t / 1024) % 32 := ⟨_, rfl⟩
    have m2 : bits .and .i64 (t / 1024) 31 = s := by rw [hs]; exact mask (t / 1024) 5 (by decide)
    have s1 : 0 ≤ s ∧ s ≤ 1000 := by omega
    obtain ⟨c, hc⟩ : ∃ c, c = kn % 16 := ⟨_, rfl⟩
    have m3 : bits .and .i64 kn 15 = c := by rw [hc]; exact mask kn 4 (by decide)
    have c1 : 0 ≤ c ∧ c ≤ 1000 := by omega
    obtain ⟨o, ho⟩ : ∃ o, o = t % 16 := ⟨_, rfl⟩
    have m4 : bits .and .i64 t 15 = o := by rw [ho]; exact mask t 4 (by decide)
    have o1 : 0 ≤ o ∧ o ≤ 1000 := by omega
    have HTY : Hid (1 + t % 1024 = ty) := hty.symm
    obtain ⟨k, hk, hkw, hkr⟩ : ∃ k : Nat, k ≤ A ∧ (fb = true ∨ k = A) ∧ (k : Int) = if fb = true then (R : Int) else (A : Int) := by
      cases fb with
      | true => exact ⟨R, hRA, .inl rfl, by simp⟩
      | false => exact ⟨A, Nat.le_refl _, .inr rfl, by simp⟩
    obtain ⟨G, hG⟩ : ∃ G : ByteArray, G.data.toList = lastN n.data.toList k := ⟨⟨(lastN n.data.toList k).toArray⟩, by simp⟩
    obtain ⟨F, hF⟩ : ∃ F, F = Qm.foldB n := ⟨_, rfl⟩
    have HNX : Hid (∀ u, Calls Try.prog 11 #[.agg #[.string n, .int .i64 ty, .string ⟨#[]⟩, .string G, .int .i64 s, .bool fb, .int .i64 0, .int .i64 0], .int .i64 c, .int .i64 o] u fun e w' => e = .returned (.tuple #[.agg #[.string F, .int .i64 ty], .int .i64 0]) ∧ Below u.heap.size u w') := fun u => by
      refine Qm.next_as ⟨n, ty, ⟨#[]⟩, G, s, fb, 0, 0⟩ c o _ u hn ?_ ?_
      · refine Qm.big ?_
        rw [hG]
        exact (last_name hm k (by omega)).1
      · rw [hF]
        exact full_next hm (by omega) hG (by rw [← hA]; exact hkw) ty1 s1 c1 o1
    have HLS : Hid (∀ u, Calls Try.prog 20 #[.string n, .int .i64 (k : Int)] u fun e w' => e = .returned (.tuple #[.string G, .int .i64 0]) ∧ Below u.heap.size u w') := fun u => Qm.refLast_as n k G u hn (by rw [last_yes hm (by omega), hG])
    have HFD : Hid (∀ u, Calls Try.prog 16 #[.string n] u fun e w' => e = .returned (.string F) ∧ Below u.heap.size u w') := fun u => refFold_as n F u hn (by rw [hF, Qm.foldB_list, foldR_yes hm])
    have HKR : Hid ((k : Int) = if fb = true then (R : Int) else (A : Int)) := hkr
    clear hA hR hty hs hc ho hG hF hkw hU hkr
    cases fb with
    | true =>
      have HKE : Hid ((R : Int) = (k : Int)) := by have := HKR.out; unfold Hid; simp at this; omega
      go_enter Try.func8, Try.ntmps8
      go_wp2_with (first
        | (go_at_call 14; go_must (refine (Qm.awake_any _).mono ?_); rintro e w1 ⟨rfl, b1⟩; have hb1 := b1; clear b1)
        | (go_at_call 19; go_must (refine (refMay_as _ true _ hn hm).mono ?_); rintro e w2 ⟨rfl, b2⟩; have hb2 := next hb1 b2; clear b2 hb1)
        | (go_at_call 18; go_must (refine (HC.out _).mono ?_); rintro e w3 ⟨rfl, b3⟩; have hb3 := next hb2 b3; clear b3 hb2)
        | (go_at_call 20; rw [HRW.out, HKE.out]; go_must (refine (HLS.out _).mono ?_); rintro e w4 ⟨rfl, b4⟩; have hb4 := next hb3 b4; clear b4 hb3)
        | (go_at_call 11; rw [HTY.out]; go_must (refine (HNX.out _).mono ?_); rintro e w5 ⟨rfl, b5⟩; have HB5 : Hid (Below w.heap.size w (w5.alloc (.cells #[.string F, .int .i64 ty] 30))) := lay (next hb4 b5) _; have hk5 : Hid (Blk (w5.alloc (.cells #[.string F, .int .i64 ty] 30)) w5.heap.size #[.string F, .int .i64 ty] 30) := Blk.new w5 _ _; clear b5 hb4))
      revert HB5 hk5
      generalize w5.alloc (.cells #[.string F, .int .i64 ty] 30) = wr
      generalize w5.heap.size = g
      intro HB5 hk5
      have q0 : ∀ nb : Bel wr, nb.to.cell? ⟨g, 0, none⟩ = some (.string F) := fun nb => (hk5.out.below nb.h).cell 0
      have q1 : ∀ nb : Bel wr, nb.to.cell? ⟨g, 1, none⟩ = some (.int .i64 ty) := fun nb => (hk5.out.below nb.h).cell 1
      refine wp_region_bel (by kernel_rfl) (by kernel_rfl) (fun _ => ?_)
      repeat (go_big_quiet_step (first
        | (go_at_call 13; exact bel_same (num_any _ _))
        | (go_at_call 16; go_must (exact bel_lays (HFD.out _)))))
      refine wpQuiet_nil ?_
      intro w7 hw7
      have HB7 : Hid (Below w.heap.size w w7) := next HB5.out (bel_out hw7)
      clear hw7 q0 q1
      go_wp2
      go_ret
      exact ⟨rfl, HB7.out⟩
    | false =>
      have HKE : Hid ((A : Int) = (k : Int)) := by have := HKR.out; unfold Hid; simp at this; omega
      go_enter Try.func8, Try.ntmps8
      go_wp2_with (first
        | (go_at_call 14; go_must (refine (Qm.awake_any _).mono ?_); rintro e w1 ⟨rfl, b1⟩; have hb1 := b1; clear b1)
        | (go_at_call 19; go_must (refine (refMay_as _ true _ hn hm).mono ?_); rintro e w2 ⟨rfl, b2⟩; have hb2 := next hb1 b2; clear b2 hb1)
        | (go_at_call 18; go_must (refine (HC.out _).mono ?_); rintro e w3 ⟨rfl, b3⟩; have hb3 := next hb2 b3; clear b3 hb2)
        | (go_at_call 20; rw [HKE.out]; go_must (refine (HLS.out _).mono ?_); rintro e w4 ⟨rfl, b4⟩; have hb4 := next hb3 b4; clear b4 hb3)
        | (go_at_call 11; rw [HTY.out]; go_must (refine (HNX.out _).mono ?_); rintro e w5 ⟨rfl, b5⟩; have HB5 : Hid (Below w.heap.size w (w5.alloc (.cells #[.string F, .int .i64 ty] 30))) := lay (next hb4 b5) _; have hk5 : Hid (Blk (w5.alloc (.cells #[.string F, .int .i64 ty] 30)) w5.heap.size #[.string F, .int .i64 ty] 30) := Blk.new w5 _ _; clear b5 hb4))
      revert HB5 hk5
      generalize w5.alloc (.cells #[.string F, .int .i64 ty] 30) = wr
      generalize w5.heap.size = g
      intro HB5 hk5
      have q0 : ∀ nb : Bel wr, nb.to.cell? ⟨g, 0, none⟩ = some (.string F) := fun nb => (hk5.out.below nb.h).cell 0
      have q1 : ∀ nb : Bel wr, nb.to.cell? ⟨g, 1, none⟩ = some (.int .i64 ty) := fun nb => (hk5.out.below nb.h).cell 1
      refine wp_region_bel (by kernel_rfl) (by kernel_rfl) (fun _ => ?_)
      repeat (go_big_quiet_step (first
        | (go_at_call 13; exact bel_same (num_any _ _))
        | (go_at_call 16; go_must (exact bel_lays (HFD.out _)))))
      refine wpQuiet_nil ?_
      intro w7 hw7
      have HB7 : Hid (Below w.heap.size w w7) := next HB5.out (bel_out hw7)
      clear hw7 q0 q1
      go_wp2
      go_ret
      exact ⟨rfl, HB7.out⟩

theorem own : ownKnob Try.prog.godebug = none := by kernel_rfl

set_option maxRecDepth 100000 in
theorem lifted (os : Os) (started : os.Started) (H : Type) (enc : TypeId × Value → H) :
    ReturnsInHanded {} Try.checked os 8 .any (Rows.qminFullSpec.pre6 enc Try.prog Try.f8 Rows.qminFullRow.domain false) (Rows.qminFullSpec.post enc Try.prog Try.f8 false true false false) := by
  refine returnsInHanded_of_change (C := Try.checked) own started (by kernel_rfl) Try.func8
    (ChangeSpec.witness6 (enc := enc) (C := Try.checked) false ⟨#[], #[.string ByteArray.empty, .int .i64 0, .int .i64 0, .bool false], []⟩ 8 (by kernel_rfl) (by kernel_rfl) (by kernel_rfl) (by kernel_rfl)) ?_
  intro W base args ds gs before hval0 hW _ _
  have hval : ∀ (j : Nat) t v, Try.f8.params[j]? = some t → args[j]? = some v → Value.okWide Try.prog W .any base t v := hval0
  have hW' := hW
  obtain ⟨p, q, hA0, hV, rfl, hfz, hnd⟩ := hW
  have hA : DataW.TrodAll enc Try.prog W 0 (fun _ => true) true Try.f8.params.toList args.toList ds p := hA0
  rw [Try.params8] at hA hval
  obtain ⟨v0, vs0, d0, ds0, p0, q0, hargs, rfl, rfl, h0, r0⟩ := trodAll_cons hA
  obtain ⟨v1, vs1, d1, ds1, p1, q1, rfl, rfl, rfl, h1, r1⟩ := trodAll_cons r0
  obtain ⟨v2, vs2, d2, ds2, p2, q2, rfl, rfl, rfl, h2, r2⟩ := trodAll_cons r1
  obtain ⟨v3, vs3, d3, ds3, p3, q3, rfl, rfl, rfl, h3, r3⟩ := trodAll_cons r2
  obtain ⟨rfl, rfl, rfl⟩ := trodAll_nil r3
  obtain rfl : args = #[v0, v1, v2, v3] := by cases args; simp_all
  obtain ⟨rfl, rfl⟩ := trodVars_none hV
  obtain ⟨a0, rfl, rfl, rfl, w0⟩ := open_string Try.underlying9 (hval 0 9 v0 rfl rfl) h0
  obtain ⟨a1, rfl, rfl, rfl, w1⟩ := open_int Try.underlying3 (hval 1 3 v1 rfl rfl) h1
  obtain ⟨a2, rfl, rfl, rfl, w2⟩ := open_int Try.underlying3 (hval 2 3 v2 rfl rfl) h2
  obtain ⟨a3, rfl, rfl, rfl⟩ := open_bool Try.underlying4 (hval 3 4 v3 rfl rfl) h3
  clear hA0 hval0
  simp only [List.append_nil] at hW'
  refine (walk a0 a1 a2 a3 w0 w1 w2 W ).mono fun e W' ⟨he, bel⟩ => ?_
  subst he
  exact ⟨_, rfl, _, _, _, [], [], [], hW', trodAll_mk1 (shut_bool Try.underlying4 _), (trodAll_cons_mk (shut_string Try.underlying9 w0) (trodAll_cons_mk (shut_int Try.underlying3 w1) (trodAll_cons_mk (shut_int Try.underlying3 w2) (trodAll_cons_mk (shut_bool Try.underlying4 _) trodAll_mk0)))), rfl, bel.frame _, fun h => by cases h⟩

/-- The statement. -/
theorem proved : Rows.QminFullSaid :=
  OpenClaim.holds_of_wide 8 Try.f8 rfl rfl rfl rfl rfl rfl rfl ⟨rfl, rfl, rfl, rfl, rfl⟩ rfl rfl rfl rfl rfl (by kernel_rfl) Try.func8 (by kernel_rfl)
    (of_decide_eq_true (by kernel_rfl)) (by unfold Func.isWrapper; first | (rw [if_pos (by decide +kernel)]; kernel_rfl) | (rw [if_neg (by decide +kernel)]; exact ⟨rfl, rfl⟩))
    (fun os started H enc _ => lifted os started H enc)
#print axioms proved


end Go.Proofs.Ytnjlfbcfnmdkkaa.qminFull
