/- QminTells holds: for every task, count and one, a step that Next gives is above the target and below what is known, by as many labels as Size says, and bears the target's type with its whole name alone. -/
import Derived.Test.YtnjlfbcfnmdkkaaQmF
import Derived.Test.YtnjlfbcfnmdkkaaQmG
import Derived.Test.YtnjlfbcfnmdkkaaQmH
namespace Go.Proofs.Ytnjlfbcfnmdkkaa.qminTells
open Go.ChangeShapes Go.WideShapes Go.ChangeAt Go.RowKit
open Go.ChangeMaps (open_string shut_string)
open Pl

/-- What Size gives, hidden. -/
def sizeF (s l c o : Int) (Z : Nat) : Prop := Qm.sizeV s l c o = .tuple #[.int .i64 (Z : Int), .int .i64 0]
/-- The task and the step in memory. -/
structure TS (w wx : World) (C : Array Value) (S : ByteArray) (T : Int) (g : Nat) : Prop where
  task : Blk wx w.heap.size C 23
  step : Blk wx g #[.string S, .int .i64 T] 30
  bel : Below w.heap.size w wx
theorem TS.past {w wx wy : World} {C : Array Value} {S : ByteArray} {T : Int} {g : Nat} (h : TS w wx C S T g) (hb : Below wx.heap.size wx wy) : TS w wy C S T g := ⟨h.task.below hb, h.step.below hb, next h.bel hb⟩

set_option maxRecDepth 20000 in
set_option maxHeartbeats 4000000 in
theorem walk (x : Qm.Tk) (c o : Int) (hn : x.n.size ≤ maxLen) (hkn : x.known.size ≤ maxLen) (_ : (Lit.int .i64 c).wf = true) (_ : (Lit.int .i64 o).wf = true) (w : World) :
    Calls Try.prog 4 #[.agg (Qm.tkC x), .int .i64 c, .int .i64 o] w fun e w' => e = .returned (.bool true) ∧ Below w.heap.size w w' := by
  cases hm : Qm.mayT x c o with
  | false =>
    have HA : Hid (∀ u, Calls Try.prog 11 #[.agg (Qm.tkC x), .int .i64 c, .int .i64 o] u fun e w' => e = .returned (.tuple #[.agg #[.string ⟨#[]⟩, .int .i64 0], .int .i64 1700]) ∧ Below u.heap.size u w') := fun u => Qm.next_as x c o _ u hn hkn (Qm.nextV_no hm)
    clear hm
    obtain ⟨n, t, cut, known, steps, fb, server, tries⟩ := x
    simp only [Qm.tkC] at HA ⊢
    clear hn hkn
    have hk0 := Blk.new w #[.string n, .int .i64 t, .string cut, .string known, .int .i64 steps, .bool fb, .int .i64 server, .int .i64 tries] 23
    have hb0 := lay (Below.refl w.heap.size w) (.cells #[.string n, .int .i64 t, .string cut, .string known, .int .i64 steps, .bool fb, .int .i64 server, .int .i64 tries] 23)
    go_enter Try.func4, Try.ntmps4
    go_wp2_with (first
      | (go_at_call 14; go_must (refine (Qm.awake_any _).mono ?_); rintro e w1 ⟨rfl, b1⟩; obtain ⟨c0, c1, c2, c3, c4, c5, c6, c7⟩ := Qm.tk8 (hk0.below b1); have HB1 : Hid (Below w.heap.size w w1) := next hb0 b1; clear b1 hk0 hb0)
      | (go_at_call 11; go_must (refine (HA.out _).mono ?_); rintro e w2 ⟨rfl, b2⟩; have HB2 : Hid (Below w.heap.size w (w2.alloc (.cells #[.string ⟨#[]⟩, .int .i64 0] 30))) := lay (next HB1.out b2) _; clear b2 HB1)
      | (go_at_call 13; refine (num_any _ _).mono ?_; rintro e w' ⟨rfl, hw⟩; obtain rfl := hw.symm))
    go_ret
    exact ⟨rfl, HB2.out⟩
  | true =>
    obtain ⟨k, Z, H⟩ := Qm.told_of hm
    obtain ⟨S, hS⟩ : ∃ S, S = Qm.lastB x.n k := ⟨_, rfl⟩
    obtain ⟨T, hT⟩ : ∃ T, T = Qm.typeI x c o := ⟨_, rfl⟩
    have hSl : S.data.toList = lastN (foldL x.n.data.toList) k := by rw [hS]; exact Qm.lastB_list _ _
    obtain ⟨n1, n2, n3⟩ := Qm.above_len H.above
    obtain ⟨l1, l2, l3, l4⟩ := Qm.last_fold_name n2 k H.top
    rw [← hSl] at l1 l2 l3
    have hSs := Qm.big l1
    have HA : Hid (∀ u, Calls Try.prog 11 #[.agg (Qm.tkC x), .int .i64 c, .int .i64 o] u fun e w' => e = .returned (.tuple #[.agg #[.string S, .int .i64 T], .int .i64 0]) ∧ Below u.heap.size u w') := fun u => Qm.next_as x c o _ u hn hkn (by rw [Qm.nextV_yes hm, hS, hT]; unfold Qm.toldB; rw [H.nam]; rfl)
    have HAB1 : Hid (∀ u, Calls Try.prog 15 #[.string S, .string x.n] u fun e w' => e = .returned (.bool true) ∧ Below u.heap.size u w') := fun u => Qm.refAbove_as _ _ _ u hSs hn (by rw [hSl]; exact Qm.last_above n2 k H.top)
    have HAB2 : Hid (∀ u, Calls Try.prog 15 #[.string x.known, .string S] u fun e w' => e = .returned (.bool true) ∧ Below u.heap.size u w') := fun u => Qm.refAbove_as _ _ _ u hkn hSs (by rw [hSl]; exact Qm.above_last H.above k H.top H.low)
    have HFD : Hid (∀ u, Calls Try.prog 16 #[.string S] u fun e w' => e = .returned (.string S) ∧ Below u.heap.size u w') := fun u => refFold_as S S u hSs (by rw [foldR_yes l1, hSl]; exact Qm.last_fold_fold n2 k)
    have HSM : Hid (∀ u, Calls Try.prog 17 #[.string S, .string x.n] u fun e w' => e = .returned (.bool (decide (k = (labs x.n.data.toList).length))) ∧ Below u.heap.size u w') := fun u => refSame_as _ _ _ u hSs hn (by rw [hSl]; exact Qm.last_same n2 k H.top)
    obtain ⟨K, hK⟩ : ∃ K, K = (labs x.known.data.toList).length := ⟨_, rfl⟩
    obtain ⟨A, hA⟩ : ∃ A, A = (labs x.n.data.toList).length := ⟨_, rfl⟩
    have HC1 : Hid (∀ u, Calls Try.prog 18 #[.string x.n] u fun e w' => e = .returned (.int .i64 (A : Int)) ∧ Below u.heap.size u w') := fun u => refCount_as _ A u hn (by rw [hA]; exact (enc_of n2).2.2.1)
    have HC2 : Hid (∀ u, Calls Try.prog 18 #[.string x.known] u fun e w' => e = .returned (.int .i64 (K : Int)) ∧ Below u.heap.size u w') := fun u => refCount_as _ K u hkn (by rw [hK]; exact (enc_of n1).2.2.1)
    have HC3 : Hid (∀ u, Calls Try.prog 18 #[.string S] u fun e w' => e = .returned (.int .i64 (k : Int)) ∧ Below u.heap.size u w') := fun u => refCount_as _ k u hSs l2
    have hA127 : A ≤ 127 := by rw [hA]; exact few n2
    have hway := H.way
    have hlow := H.low
    have htop := H.top
    have hz1 := H.z1
    have hzl := H.zl
    have hsz := H.size
    rw [← hA, ← hK, ← hT] at hway
    rw [← hA] at htop HSM
    rw [← hK] at hlow
    have hlf : Qm.leftI x = max 1 ((A : Int) - K) := by rw [hA, hK]; rfl
    rw [hlf] at hzl hsz
    clear H hS hT hSl n1 n2 n3 l1 l2 l3 l4 hSs hK hA hm hlf
    obtain ⟨n, t, cut, known, steps, fb, server, tries⟩ := x
    simp only [Qm.tkC] at HA HAB1 HAB2 HSM HC1 HC2 hway hsz ⊢
    clear hn hkn
    have hk0 := Blk.new w #[.string n, .int .i64 t, .string cut, .string known, .int .i64 steps, .bool fb, .int .i64 server, .int .i64 tries] 23
    have hb0 := lay (Below.refl w.heap.size w) (.cells #[.string n, .int .i64 t, .string cut, .string known, .int .i64 steps, .bool fb, .int .i64 server, .int .i64 tries] 23)
    have HWAY : Hid ((k = A ∧ T = t) ∨ (fb = false ∧ k = K + Z ∧ k < A ∧ T = 1)) := hway
    have HSZ : Hid (sizeF steps (max 1 ((A : Int) - K)) c o Z) := hsz
    have HNUM : Hid (K ≤ k ∧ k ≤ A ∧ 1 ≤ Z ∧ (Z : Int) ≤ max 1 ((A : Int) - K)) := ⟨hlow, htop, hz1, hzl⟩
    clear hway hsz hlow htop hz1 hzl
    go_enter Try.func4, Try.ntmps4
    go_wp2_with (first
      | (go_at_call 14; go_must (refine (Qm.awake_any _).mono ?_); rintro e w1 ⟨rfl, b1⟩; obtain ⟨c0, c1, c2, c3, c4, c5, c6, c7⟩ := Qm.tk8 (hk0.below b1); have HB1 : Hid (Below w.heap.size w w1) := next hb0 b1; have HK1 : Hid (Blk w1 w.heap.size #[.string n, .int .i64 t, .string cut, .string known, .int .i64 steps, .bool fb, .int .i64 server, .int .i64 tries] 23) := hk0.below b1; clear b1 hk0 hb0)
      | (go_at_call 11; go_must (refine (HA.out _).mono ?_); rintro e w2 ⟨rfl, b2⟩; have HT2 : Hid (TS w (w2.alloc (.cells #[.string S, .int .i64 T] 30)) #[.string n, .int .i64 t, .string cut, .string known, .int .i64 steps, .bool fb, .int .i64 server, .int .i64 tries] S T w2.heap.size) := ⟨(HK1.out.below b2).alloc _, Blk.new w2 _ _, lay (next HB1.out b2) _⟩; clear b2 HB1 HK1 c0 c1 c2 c3 c4 c5 c6 c7)
      | (go_at_call 13; refine (num_any _ _).mono ?_; rintro e w' ⟨rfl, hw⟩; obtain rfl := hw.symm))
    revert HT2
    generalize w2.alloc (.cells #[.string S, .int .i64 T] 30) = wr
    generalize w2.heap.size = g
    intro HT2
    have s0 : ∀ nb : Bel wr, nb.to.cell? ⟨g, 0, none⟩ = some (.string S) := fun nb => (HT2.out.past nb.h).step.cell 0
    have e0 : ∀ nb : Bel wr, nb.to.cell? ⟨w.heap.size, 0, none⟩ = some (.string n) := fun nb => (HT2.out.past nb.h).task.cell 0
    have e3 : ∀ nb : Bel wr, nb.to.cell? ⟨w.heap.size, 3, none⟩ = some (.string known) := fun nb => (HT2.out.past nb.h).task.cell 3
    refine wp_region_bel (by kernel_rfl) (by kernel_rfl) (fun _ => ?_)
    repeat (go_big_quiet_step (first
      | (go_at_call_of 15 (#[Value.string S, Value.string n]); go_must (exact bel_lays (HAB1.out _)))
      | (go_at_call_of 15 (#[Value.string known, Value.string S]); go_must (exact bel_lays (HAB2.out _)))
      | (go_at_call 16; go_must (exact bel_lays (HFD.out _)))))
    refine wpQuiet_nil ?_
    intro wn hwn
    have HT3 : Hid (TS w wn #[.string n, .int .i64 t, .string cut, .string known, .int .i64 steps, .bool fb, .int .i64 server, .int .i64 tries] S T g) := HT2.out.past (bel_out hwn)
    clear HT2 hwn s0 e0 e3 HAB1 HAB2 HFD HA
    have s0 : wn.cell? ⟨g, 0, none⟩ = some (.string S) := HT3.out.step.cell 0
    have e0 : wn.cell? ⟨w.heap.size, 0, none⟩ = some (.string n) := HT3.out.task.cell 0
    rcases HWAY.out with ⟨h1, h2⟩ | ⟨h1, h2, h3, h4⟩
    · have HS2 : Hid (∀ u, Calls Try.prog 17 #[.string S, .string n] u fun e w' => e = .returned (.bool true) ∧ Below u.heap.size u w') := fun u => by have := HSM.out u; rw [show decide (k = A) = true from by simpa using h1] at this; exact this
      subst h2
      clear h1 HSM HSZ HNUM HWAY
      go_wp2_with (go_at_call 17; go_must (refine (HS2.out _).mono ?_); rintro e w4 ⟨rfl, b4⟩; have HT4 : Hid (TS w w4 #[.string n, .int .i64 T, .string cut, .string known, .int .i64 steps, .bool fb, .int .i64 server, .int .i64 tries] S T g) := HT3.out.past b4; have s1 : w4.cell? ⟨g, 1, none⟩ = some (.int .i64 T) := HT4.out.step.cell 1; have e1 : w4.cell? ⟨w.heap.size, 1, none⟩ = some (.int .i64 T) := HT4.out.task.cell 1; clear b4)
      go_ret
      exact ⟨rfl, HT4.out.bel⟩
    · have HS2 : Hid (∀ u, Calls Try.prog 17 #[.string S, .string n] u fun e w' => e = .returned (.bool false) ∧ Below u.heap.size u w') := fun u => by have := HSM.out u; rw [show decide (k = A) = false from by simp; omega] at this; exact this
      subst h1
      subst h4
      have hnum := HNUM.out
      have HK2 : Hid (k = K + Z) := h2
      have HS3 : Hid (∀ q : Int, q = (A : Int) - K → Qm.sizeV steps q c o = .tuple #[.int .i64 (Z : Int), .int .i64 0]) := fun q hq => by
        have := HSZ.out
        unfold sizeF at this
        rw [show max 1 ((A : Int) - K) = q from by omega] at this
        exact this
      have hZA : decide ((Z : Int) < (A : Int) - (K : Int)) = true := by simp; omega
      have hZ1 : (1 : Int) ≤ (Z : Int) := by omega
      have hkA : k ≤ 127 := by omega
      have hZ127 : Z ≤ 127 := by omega
      have hK127 : K ≤ 127 := by omega
      have HL : Hid ((Z : Int) < (A : Int) - (K : Int)) := by unfold Hid; omega
      have HKZ : Hid (((k : Int) == (K : Int) + (Z : Int)) = true) := by unfold Hid; simp; omega
      clear h2 h3 HSM HSZ HNUM HWAY hnum
      go_wp2_with (go_at_call 17; go_must (refine (HS2.out _).mono ?_); rintro e w4 ⟨rfl, b4⟩; have HT4 : Hid (TS w w4 #[.string n, .int .i64 t, .string cut, .string known, .int .i64 steps, .bool false, .int .i64 server, .int .i64 tries] S 1 g) := HT3.out.past b4; clear b4 s0 e0)
      have e0 : ∀ nb : Bel w4, nb.to.cell? ⟨w.heap.size, 0, none⟩ = some (.string n) := fun nb => (HT4.out.past nb.h).task.cell 0
      have e3 : ∀ nb : Bel w4, nb.to.cell? ⟨w.heap.size, 3, none⟩ = some (.string known) := fun nb => (HT4.out.past nb.h).task.cell 3
      refine wp_region_bel (by kernel_rfl) (by kernel_rfl) (fun _ => ?_)
      repeat (go_big_quiet_step (first
        | (go_at_call_of 18 (#[Value.string n]); go_must (exact bel_lays (HC1.out _)))
        | (go_at_call_of 18 (#[Value.string known]); go_must (exact bel_lays (HC2.out _)))))
      refine wpQuiet_nil ?_
      intro w5 hw5
      have HT5 : Hid (TS w w5 #[.string n, .int .i64 t, .string cut, .string known, .int .i64 steps, .bool false, .int .i64 server, .int .i64 tries] S 1 g) := HT4.out.past (bel_out hw5)
      clear HT4 HT3 hw5 e0 e3
      have e4 : w5.cell? ⟨w.heap.size, 4, none⟩ = some (.int .i64 steps) := HT5.out.task.cell 4
      go_wp2_with (go_at_call 9; go_must (refine (Qm.size_as _ _ _ _ _ _ (HS3.out _ rfl)).mono ?_); rintro e w6 ⟨rfl, b6⟩; have HT6 : Hid (TS w w6 #[.string n, .int .i64 t, .string cut, .string known, .int .i64 steps, .bool false, .int .i64 server, .int .i64 tries] S 1 g) := HT5.out.past b6; clear b6 e4)
      have e5 : ∀ nb : Bel w6, nb.to.cell? ⟨w.heap.size, 5, none⟩ = some (.bool false) := fun nb => (HT6.out.past nb.h).task.cell 5
      have e3 : ∀ nb : Bel w6, nb.to.cell? ⟨w.heap.size, 3, none⟩ = some (.string known) := fun nb => (HT6.out.past nb.h).task.cell 3
      have s1 : ∀ nb : Bel w6, nb.to.cell? ⟨g, 1, none⟩ = some (.int .i64 1) := fun nb => (HT6.out.past nb.h).step.cell 1
      have s0 : ∀ nb : Bel w6, nb.to.cell? ⟨g, 0, none⟩ = some (.string S) := fun nb => (HT6.out.past nb.h).step.cell 0
      have hkz := HKZ.out
      refine wp_region_bel (by kernel_rfl) (by kernel_rfl) (fun _ => ?_)
      repeat (go_big_quiet_step (first
        | (go_at_call 13; exact bel_same (num_any _ _))
        | (go_at_call_of 18 (#[Value.string S]); go_must (exact bel_lays (HC3.out _)))
        | (go_at_call_of 18 (#[Value.string known]); go_must (exact bel_lays (HC2.out _)))))
      refine wpQuiet_nil ?_
      intro w7 hw7
      have HB7 : Hid (Below w.heap.size w w7) := (HT6.out.past (bel_out hw7)).bel
      clear HT6 HT5 hw7 e5 e3 s1 s0
      go_wp2
      go_ret
      exact ⟨rfl, HB7.out⟩

theorem own : ownKnob Try.prog.godebug = none := by kernel_rfl
theorem laidOut : laidOutB Try.prog = true := by kernel_rfl

set_option maxRecDepth 100000 in
theorem lifted (os : Os) (started : os.Started) (H : Type) (enc : TypeId × Value → H) :
    ReturnsInHanded {} Try.checked os 4 .any (Rows.qminTellsSpec.pre6 enc Try.prog Try.f4 Rows.qminTellsRow.domain false) (Rows.qminTellsSpec.post enc Try.prog Try.f4 false true false false) := by
  refine returnsInHanded_of_change (C := Try.checked) own started (by kernel_rfl) Try.func4
    (ChangeSpec.witness6 (enc := enc) (C := Try.checked) false ⟨#[], #[.agg (Qm.tkC Qm.tkZ), .int .i64 0, .int .i64 0], []⟩ 8 (by kernel_rfl) (by kernel_rfl) (by kernel_rfl) (by kernel_rfl)) ?_
  intro W base args ds gs before hval0 hW _ _
  have hval : ∀ (j : Nat) t v, Try.f4.params[j]? = some t → args[j]? = some v → Value.okWide Try.prog W .any base t v := hval0
  have hW' := hW
  obtain ⟨p, q, hA0, hV, rfl, hfz, hnd⟩ := hW
  have hA : DataW.TrodAll enc Try.prog W 0 (fun _ => true) true Try.f4.params.toList args.toList ds p := hA0
  rw [Try.params4] at hA hval
  obtain ⟨v0, vs0, d0, ds0, p0, q0, hargs, rfl, rfl, h0, r0⟩ := trodAll_cons hA
  obtain ⟨v1, vs1, d1, ds1, p1, q1, rfl, rfl, rfl, h1, r1⟩ := trodAll_cons r0
  obtain ⟨v2, vs2, d2, ds2, p2, q2, rfl, rfl, rfl, h2, r2⟩ := trodAll_cons r1
  obtain ⟨rfl, rfl, rfl⟩ := trodAll_nil r2
  obtain rfl : args = #[v0, v1, v2] := by cases args; simp_all
  obtain ⟨rfl, rfl⟩ := trodVars_none hV
  obtain ⟨a0, rfl, rfl, w0n, w0k⟩ := Qm.open_task (hval 0 23 v0 rfl rfl) h0
  obtain ⟨a1, rfl, rfl, rfl, w1⟩ := open_int Try.underlying3 (hval 1 3 v1 rfl rfl) h1
  obtain ⟨a2, rfl, rfl, rfl, w2⟩ := open_int Try.underlying3 (hval 2 3 v2 rfl rfl) h2
  clear hA0 hval0
  simp only [List.append_nil] at hW'
  refine (walk a0 a1 a2 w0n w0k w1 w2 W ).mono fun e W' ⟨he, bel⟩ => ?_
  subst he
  exact ⟨_, rfl, _, _, _, [], [], [], hW', trodAll_mk1 (shut_bool Try.underlying4 _), (trodAll_cons_mk (Below.trod laidOut (by kernel_rfl) (of_decide_eq_true (by kernel_rfl)) h0 bel (by simp)) (trodAll_cons_mk (shut_int Try.underlying3 w1) (trodAll_cons_mk (shut_int Try.underlying3 w2) trodAll_mk0))), rfl, bel.frame _, fun h => by cases h⟩

/-- The statement. -/
theorem proved : Rows.QminTellsSaid :=
  OpenClaim.holds_of_wide 4 Try.f4 rfl rfl rfl rfl rfl rfl rfl ⟨rfl, rfl, rfl, rfl, rfl⟩ rfl rfl rfl rfl rfl (by kernel_rfl) Try.func4 (by kernel_rfl)
    (of_decide_eq_true (by kernel_rfl)) (by unfold Func.isWrapper; first | (rw [if_pos (by decide +kernel)]; kernel_rfl) | (rw [if_neg (by decide +kernel)]; exact ⟨rfl, rfl⟩))
    (fun os started H enc _ => lifted os started H enc)
#print axioms proved


end Go.Proofs.Ytnjlfbcfnmdkkaa.qminTells
