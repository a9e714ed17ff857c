/- WireSizes holds: for every name and every two numbers, a message of so many records of that name is as long as its parts, or too long. -/
import Derived.Test.YtdogjbblnjjaaaaXWiU
import Derived.ProofKit
import Derived.OpenShut
import Derived.ShutString
namespace Go.Proofs.Ytdogjbblnjjaaaa.wireSizes
open Go.ChangeShapes Go.WideShapes Go.ChangeAt Go.RowKit
open Go.ChangeMaps (open_string shut_string)
open Pl

set_option maxRecDepth 20000 in
set_option maxHeartbeats 2000000 in
theorem w_long (n : ByteArray) (x y : Int) (K d : Nat) (w : World) (hK : K ≤ 63) (hd : d ≤ 63) (mK : bits .and .i64 x 63 = (K : Int)) (md : bits .and .i64 y 63 = (d : Int)) (hn : isName n.data.toList = true) (hr : n.data.toList ≠ [0]) (hsz : ¬ 12 + n.size + 4 + K * (12 + d) ≤ 4096) :
    Calls Try.prog 7 #[.string n, .int .i64 x, .int .i64 y] w fun e w' => e = .returned (.bool true) ∧ Below w.heap.size w w' := by
  have hb : Below w.heap.size w w := Below.refl _ _
  have h255 := (name_some hn).1
  rw [data_len] at h255
  have hs : n.size ≤ maxLen := small100 (by omega)
  have hn1 : n.size ≤ 100000 := by omega
  have hK1 : K ≤ 1000 := by omega
  have hmay := sz_may hn K d hK hd
  have HN : Hid (isName n.data.toList = true) := hn
  obtain ⟨Zc, hmk, hcz⟩ := madeN d (by omega)
  obtain ⟨T, hT⟩ : ∃ T : ByteArray, T = ⟨#[]⟩ := ⟨_, rfl⟩
  have hpv : putV (szM n K d) = .tuple #[.string T, .int .i64 701] := by rw [putV_yes hmay, (sz_put hn hr K d).2 hsz, hT]; rfl
  have HTE : Hid (T = ⟨#[]⟩) := hT
  have hKd : ((K * (12 + d) : Nat) : Int) = (K : Int) * (12 + (d : Int)) := by push_cast; rfl
  have hgt : (4096 : Int) < 12 + (n.size : Int) + 4 + (K : Int) * (12 + (d : Int)) := by omega
  have hne : (n.toList == [0]) = false := by rw [ByteArray.toList_eq]; simpa using hr
  obtain ⟨Z, hZ⟩ : ∃ Z, Z = zerosB d := ⟨_, rfl⟩
  have hZ1 : Z.size ≤ 100000 := by rw [hZ, zerosB_size]; omega
  have HSZ : Hid ((szM n K d).an = List.replicate K ⟨n, 999, 1, 0, Z⟩) := by unfold Hid; rw [hZ]; rfl
  have HP : Hid (putV ⟨⟨0, false, 0, false, false, false, false, 0, 0⟩, [⟨n, 1, 1⟩], List.replicate K ⟨n, 999, 1, 0, Z⟩, [], []⟩ = .tuple #[.string T, .int .i64 701]) := by unfold Hid; rw [hZ]; exact hpv
  simp only [← hZ] at hcz
  have k12 : 0 ≤ (K : Int) * (12 + (d : Int)) ∧ (K : Int) * (12 + (d : Int)) ≤ 63 * 75 := by
    have e : ((K * (12 + d) : Nat) : Int) = (K : Int) * (12 + (d : Int)) := by push_cast; rfl
    have := Nat.mul_le_mul hK (show 12 + d ≤ 75 by omega)
    omega
  clear hn hr hZ hpv hmay
  subst hT
  clear HTE
  go_enter Try.func7, Try.ntmps7
  go_wp2_with (first
    | (go_at_call 14; refine (num_any _ _).mono ?_; rintro e w' ⟨rfl, hw⟩; obtain rfl := hw.symm)
    | (go_at_call 17; go_must (refine (awake_any _).mono ?_); rintro e w0 ⟨rfl, bb⟩; replace hb := next hb bb; clear bb)
    | (go_at_call 19; go_must (refine (refMay_at n true _ hs HN.out).mono ?_); rintro e w1 ⟨rfl, bb⟩; replace hb := next hb bb; clear bb)
    | (go_at_call 18; go_must (refine (many_any ⟨n, 999, 1, 0, Z⟩ K _ hK1).mono ?_); rintro e w2 ⟨ya, ca, rfl, oo, bb⟩; have kq := Blk.new ((w1.alloc (.cells Zc 5)).alloc (.cells #[.string n, .int .i64 999, .int .i64 1, .int .i64 0, .string Z] 48)) #[.string n, .int .i64 1, .int .i64 1] 50; simp only [World.size_alloc] at kq; have QQ : Hid (QRow w2 (.slice (some ⟨w1.heap.size + 1 + 1, 0, none⟩) 1 1) [⟨n, 1, 1⟩]) := qrow_lit (q := ⟨n, 1, 1⟩) (kq.below bb) hn1; have AA : Hid (RRow w2 (.slice ya K ca) (List.replicate K ⟨n, 999, 1, 0, Z⟩)) := replicate_row oo hK1 hn1 hZ1; replace hb := next (lay (lay (lay hb _) _) _) bb; clear bb oo kq)
    | (go_at_call 10; go_must (refine (put_h 0 false 0 false false false false 0 0 [⟨n, 1, 1⟩] (List.replicate K ⟨n, 999, 1, 0, Z⟩) [] [] ⟨#[]⟩ _ _ _ _ _ _ HP.out (QQ.out.below (lay (Below.refl _ _) _)) (AA.out.below (lay (Below.refl _ _) _)) (RRow.nil _) (RRow.nil _)).mono ?_); rintro e w3 ⟨rfl, bb⟩; have KM := (Blk.new w2 #[.int .i64 0, .bool false, .int .i64 0, .bool false, .bool false, .bool false, .bool false, .int .i64 0, .int .i64 0, .slice (some ⟨w1.heap.size + 1 + 1, 0, none⟩) 1 1, .slice ya K ca, .slice none 0 0, .slice none 0 0] 27).below bb; replace QQ : Hid (QRow w3 (.slice (some ⟨w1.heap.size + 1 + 1, 0, none⟩) 1 1) [⟨n, 1, 1⟩]) := QQ.out.below (next (lay (Below.refl _ _) _) bb); replace AA : Hid (RRow w3 (.slice ya K ca) (List.replicate K ⟨n, 999, 1, 0, Z⟩)) := AA.out.below (next (lay (Below.refl _ _) _) bb); replace hb := next (lay hb _) bb; clear bb))
  go_ret
  exact ⟨ret_bool (by simp), hb⟩

set_option maxRecDepth 20000 in
set_option maxHeartbeats 2000000 in
theorem w_fits (n : ByteArray) (x y : Int) (K d : Nat) (w : World) (hK : K ≤ 63) (hd : d ≤ 63) (mK : bits .and .i64 x 63 = (K : Int)) (md : bits .and .i64 y 63 = (d : Int)) (hn : isName n.data.toList = true) (hr : n.data.toList ≠ [0]) (hsz : 12 + n.size + 4 + K * (12 + d) ≤ 4096) :
    Calls Try.prog 7 #[.string n, .int .i64 x, .int .i64 y] w fun e w' => e = .returned (.bool true) ∧ Below w.heap.size w w' := by
  have hb : Below w.heap.size w w := Below.refl _ _
  have h255 := (name_some hn).1
  rw [data_len] at h255
  have hs : n.size ≤ maxLen := small100 (by omega)
  have hn1 : n.size ≤ 100000 := by omega
  have hK1 : K ≤ 1000 := by omega
  have hmay := sz_may hn K d hK hd
  have HN : Hid (isName n.data.toList = true) := hn
  obtain ⟨Zc, hmk, hcz⟩ := madeN d (by omega)
  obtain ⟨st, hst, hsl⟩ := (sz_put hn hr K d).1 hsz
  obtain ⟨g1, g2, g3⟩ := there_back hmay hst
  obtain ⟨T, hT⟩ : ∃ T : ByteArray, T = ⟨st.1.toArray⟩ := ⟨_, rfl⟩
  have hTs : T.size = 12 + n.size + 4 + K * (12 + d) := by rw [hT, toArr_size]; exact hsl
  rw [← hT] at g1
  have hpv : putV (szM n K d) = .tuple #[.string T, .int .i64 0] := by rw [putV_yes hmay, hst, hT]; rfl
  have HG : Hid (gM T = szM n K d ∧ gE T = 0) := g_some (by omega) g1
  have hTm : T.size ≤ maxLen := small100 (by omega)
  have HFEW : Hid _ := may_few hmay
  have hKd : ((K * (12 + d) : Nat) : Int) = (K : Int) * (12 + (d : Int)) := by push_cast; rfl
  have hgt : decide ((4096 : Int) < 12 + (n.size : Int) + 4 + (K : Int) * (12 + (d : Int))) = false := by simp; omega
  have hts : ((T.size : Int) == 12 + (n.size : Int) + 4 + (K : Int) * (12 + (d : Int))) = true := by simp; omega
  have hne : (n.toList == [0]) = false := by rw [ByteArray.toList_eq]; simpa using hr
  obtain ⟨Z, hZ⟩ : ∃ Z, Z = zerosB d := ⟨_, rfl⟩
  have hZ1 : Z.size ≤ 100000 := by rw [hZ, zerosB_size]; omega
  have HSZ : Hid ((szM n K d).an = List.replicate K ⟨n, 999, 1, 0, Z⟩) := by unfold Hid; rw [hZ]; rfl
  have HP : Hid (putV ⟨⟨0, false, 0, false, false, false, false, 0, 0⟩, [⟨n, 1, 1⟩], List.replicate K ⟨n, 999, 1, 0, Z⟩, [], []⟩ = .tuple #[.string T, .int .i64 0]) := by unfold Hid; rw [hZ]; exact hpv
  simp only [← hZ] at hcz
  have k12 : 0 ≤ (K : Int) * (12 + (d : Int)) ∧ (K : Int) * (12 + (d : Int)) ≤ 63 * 75 := by
    have e : ((K * (12 + d) : Nat) : Int) = (K : Int) * (12 + (d : Int)) := by push_cast; rfl
    have := Nat.mul_le_mul hK (show 12 + d ≤ 75 by omega)
    omega
  clear hn hr hZ hpv hmay
  clear hTs hsl g1 g2 g3 hst hT hKd
  go_enter Try.func7, Try.ntmps7
  go_wp2_with (first
    | (go_at_call 14; refine (num_any _ _).mono ?_; rintro e w' ⟨rfl, hw⟩; obtain rfl := hw.symm)
    | (go_at_call 17; go_must (refine (awake_any _).mono ?_); rintro e w0 ⟨rfl, bb⟩; replace hb := next hb bb; clear bb)
    | (go_at_call 19; go_must (refine (refMay_at n true _ hs HN.out).mono ?_); rintro e w1 ⟨rfl, bb⟩; replace hb := next hb bb; clear bb)
    | (go_at_call 18; go_must (refine (many_any ⟨n, 999, 1, 0, Z⟩ K _ hK1).mono ?_); rintro e w2 ⟨ya, ca, rfl, oo, bb⟩; have kq := Blk.new ((w1.alloc (.cells Zc 5)).alloc (.cells #[.string n, .int .i64 999, .int .i64 1, .int .i64 0, .string Z] 48)) #[.string n, .int .i64 1, .int .i64 1] 50; simp only [World.size_alloc] at kq; have QQ : Hid (QRow w2 (.slice (some ⟨w1.heap.size + 1 + 1, 0, none⟩) 1 1) [⟨n, 1, 1⟩]) := qrow_lit (q := ⟨n, 1, 1⟩) (kq.below bb) hn1; have AA : Hid (RRow w2 (.slice ya K ca) (List.replicate K ⟨n, 999, 1, 0, Z⟩)) := replicate_row oo hK1 hn1 hZ1; replace hb := next (lay (lay (lay hb _) _) _) bb; clear bb oo kq)
    | (go_at_call 10; go_must (refine (put_h 0 false 0 false false false false 0 0 [⟨n, 1, 1⟩] (List.replicate K ⟨n, 999, 1, 0, Z⟩) [] [] T _ _ _ _ _ _ HP.out (QQ.out.below (lay (Below.refl _ _) _)) (AA.out.below (lay (Below.refl _ _) _)) (RRow.nil _) (RRow.nil _)).mono ?_); rintro e w3 ⟨rfl, bb⟩; have KM := (Blk.new w2 #[.int .i64 0, .bool false, .int .i64 0, .bool false, .bool false, .bool false, .bool false, .int .i64 0, .int .i64 0, .slice (some ⟨w1.heap.size + 1 + 1, 0, none⟩) 1 1, .slice ya K ca, .slice none 0 0, .slice none 0 0] 27).below bb; replace QQ : Hid (QRow w3 (.slice (some ⟨w1.heap.size + 1 + 1, 0, none⟩) 1 1) [⟨n, 1, 1⟩]) := QQ.out.below (next (lay (Below.refl _ _) _) bb); replace AA : Hid (RRow w3 (.slice ya K ca) (List.replicate K ⟨n, 999, 1, 0, Z⟩)) := AA.out.below (next (lay (Below.refl _ _) _) bb); replace hb := next (lay hb _) bb; clear bb)
    | (go_at_call 12; go_must (refine (get_kz T _ _ _ hTm HG.out rfl).mono ?_); rintro e w4 ⟨y0, y1, y2, y3, n0, n1, n2, n3, k0, k1, k2, k3, rfl, oo, bb⟩; replace KM := KM.below bb; have OO : Hid (MR w4 (.slice y0 n0 k0) (.slice y1 n1 k1) (.slice y2 n2 k2) (.slice y3 n3 k3) (szM n K d)) := oo.mr HFEW.out; replace QQ : Hid (QRow w4 (.slice (some ⟨w1.heap.size + 1 + 1, 0, none⟩) 1 1) [⟨n, 1, 1⟩]) := QQ.out.below bb; replace AA : Hid (RRow w4 (.slice ya K ca) (List.replicate K ⟨n, 999, 1, 0, Z⟩)) := AA.out.below bb; replace hb := next hb bb; have ltM := KM.lt; have m0 : w4.cell? ⟨w2.heap.size, 0, none⟩ = some (.int .i64 0) := KM.cell 0; have m1 : w4.cell? ⟨w2.heap.size, 1, none⟩ = some (.bool false) := KM.cell 1; have m2 : w4.cell? ⟨w2.heap.size, 2, none⟩ = some (.int .i64 0) := KM.cell 2; have m3 : w4.cell? ⟨w2.heap.size, 3, none⟩ = some (.bool false) := KM.cell 3; have m4 : w4.cell? ⟨w2.heap.size, 4, none⟩ = some (.bool false) := KM.cell 4; have m5 : w4.cell? ⟨w2.heap.size, 5, none⟩ = some (.bool false) := KM.cell 5; have m6 : w4.cell? ⟨w2.heap.size, 6, none⟩ = some (.bool false) := KM.cell 6; have m7 : w4.cell? ⟨w2.heap.size, 7, none⟩ = some (.int .i64 0) := KM.cell 7; have m8 : w4.cell? ⟨w2.heap.size, 8, none⟩ = some (.int .i64 0) := KM.cell 8; have m9 : w4.cell? ⟨w2.heap.size, 9, none⟩ = some (.slice (some ⟨w1.heap.size + 1 + 1, 0, none⟩) 1 1) := KM.cell 9; have m10 : w4.cell? ⟨w2.heap.size, 10, none⟩ = some (.slice ya K ca) := KM.cell 10; have m11 : w4.cell? ⟨w2.heap.size, 11, none⟩ = some (.slice none 0 0) := KM.cell 11; have m12 : w4.cell? ⟨w2.heap.size, 12, none⟩ = some (.slice none 0 0) := KM.cell 12; clear bb oo)
    | (go_at_call 15; go_must (refine (same_z (szM n K d) _ _ _ _ _ _ _ _ _ rfl (MRow.mr (m := szM n K d) (QQ.out.below (lay (Below.refl _ _) _)) (by rw [HSZ.out]; exact AA.out.below (lay (Below.refl _ _) _)) (RRow.nil _) (RRow.nil _)) (OO.out.below (lay (Below.refl _ _) _))).mono ?_); rintro e w5 ⟨rfl, bb⟩; replace hb := next (lay hb _) bb; clear bb))
  go_ret
  exact ⟨ret_bool (by simp), hb⟩

theorem mask63 (x : Int) : ∃ K : Nat, K ≤ 63 ∧ bits .and .i64 x 63 = (K : Int) := by
  have := mask x 6 (by decide)
  have e : ((2 ^ 6 - 1 : Nat) : Int) = 63 := by decide
  rw [e] at this
  exact ⟨(x % 64).toNat, by omega, by rw [this]; omega⟩

set_option maxRecDepth 20000 in
theorem walk (n : ByteArray) (x y : Int) (hs : n.size ≤ maxLen) (_ : (Lit.int .i64 x).wf = true) (_ : (Lit.int .i64 y).wf = true) (w : World) :
    Calls Try.prog 7 #[.string n, .int .i64 x, .int .i64 y] w fun e w' => e = .returned (.bool true) ∧ Below w.heap.size w w' := by
  cases hn : isName n.data.toList with
  | false =>
    have hb : Below w.heap.size w w := Below.refl _ _
    have HN : Hid (isName n.data.toList = false) := hn
    clear hn
    go_enter Try.func7, Try.ntmps7
    go_wp2_with (first
      | (go_at_call 17; go_must (refine (awake_any _).mono ?_); rintro e w0 ⟨rfl, bb⟩; replace hb := next hb bb; clear bb)
      | (go_at_call 19; go_must (refine (refMay_at n false _ hs HN.out).mono ?_); rintro e w1 ⟨rfl, bb⟩; replace hb := next hb bb; clear bb))
    go_ret
    exact ⟨rfl, hb⟩
  | true =>
    by_cases hr : n.data.toList = [0]
    · have hb : Below w.heap.size w w := Below.refl _ _
      have HN : Hid (isName n.data.toList = true) := hn
      have hne : (n.toList == [0]) = true := by rw [ByteArray.toList_eq]; simpa using hr
      clear hn hr
      go_enter Try.func7, Try.ntmps7
      go_wp2_with (first
        | (go_at_call 17; go_must (refine (awake_any _).mono ?_); rintro e w0 ⟨rfl, bb⟩; replace hb := next hb bb; clear bb)
        | (go_at_call 19; go_must (refine (refMay_at n true _ hs HN.out).mono ?_); rintro e w1 ⟨rfl, bb⟩; replace hb := next hb bb; clear bb))
      go_ret
      exact ⟨rfl, hb⟩
    · obtain ⟨K, hK, mK⟩ := mask63 x
      obtain ⟨d, hd, md⟩ := mask63 y
      by_cases hsz : 12 + n.size + 4 + K * (12 + d) ≤ 4096
      · exact w_fits n x y K d w hK hd mK md hn hr hsz
      · exact w_long n x y K d w hK hd mK md hn hr hsz

theorem own : ownKnob Try.prog.godebug = none := by kernel_rfl

set_option maxRecDepth 100000 in
theorem lifted (os : Os) (started : os.Started) (H : Type) (enc : TypeId × Value → H) :
    ReturnsInHanded {} Try.checked os 7 .any (Rows.wireSizesSpec.pre6 enc Try.prog Try.f7 Rows.wireSizesRow.domain false) (Rows.wireSizesSpec.post enc Try.prog Try.f7 false true false false) := by
  refine returnsInHanded_of_change (C := Try.checked) own started (by kernel_rfl) Try.func7
    (ChangeSpec.witness6 (enc := enc) (C := Try.checked) false ⟨#[], #[.string ByteArray.empty, .int .i64 0, .int .i64 0], []⟩ 8 (by kernel_rfl) (by kernel_rfl) (by kernel_rfl) (by kernel_rfl)) ?_
  intro W base args ds gs before hval0 hW _ _
  have hval : ∀ (j : Nat) t v, Try.f7.params[j]? = some t → args[j]? = some v → Value.okWide Try.prog W .any base t v := hval0
  have hW' := hW
  obtain ⟨p, q, hA0, hV, rfl, hfz, hnd⟩ := hW
  have hA : DataW.TrodAll enc Try.prog W 0 (fun _ => true) true Try.f7.params.toList args.toList ds p := hA0
  rw [Try.params7] at hA hval
  obtain ⟨v0, vs0, d0, ds0, p0, q0, hargs, rfl, rfl, h0, r0⟩ := trodAll_cons hA
  obtain ⟨v1, vs1, d1, ds1, p1, q1, rfl, rfl, rfl, h1, r1⟩ := trodAll_cons r0
  obtain ⟨v2, vs2, d2, ds2, p2, q2, rfl, rfl, rfl, h2, r2⟩ := trodAll_cons r1
  obtain ⟨rfl, rfl, rfl⟩ := trodAll_nil r2
  obtain rfl : args = #[v0, v1, v2] := by cases args; simp_all
  obtain ⟨rfl, rfl⟩ := trodVars_none hV
  obtain ⟨a0, rfl, rfl, rfl, w0⟩ := open_string Try.underlying9 (hval 0 9 v0 rfl rfl) h0
  obtain ⟨a1, rfl, rfl, rfl, w1⟩ := open_int Try.underlying3 (hval 1 3 v1 rfl rfl) h1
  obtain ⟨a2, rfl, rfl, rfl, w2⟩ := open_int Try.underlying3 (hval 2 3 v2 rfl rfl) h2
  clear hA0 hval0
  simp only [List.append_nil] at hW'
  refine (walk a0 a1 a2 w0 w1 w2 W ).mono fun e W' ⟨he, bel⟩ => ?_
  subst he
  exact ⟨_, rfl, _, _, _, [], [], [], hW', trodAll_mk1 (shut_bool Try.underlying4 _), (trodAll_cons_mk (shut_string Try.underlying9 w0) (trodAll_cons_mk (shut_int Try.underlying3 w1) (trodAll_cons_mk (shut_int Try.underlying3 w2) trodAll_mk0))), rfl, bel.frame _, fun h => by cases h⟩

/-- The statement. -/
theorem proved : Rows.WireSizesSaid :=
  OpenClaim.holds_of_wide 7 Try.f7 rfl rfl rfl rfl rfl rfl rfl ⟨rfl, rfl, rfl, rfl, rfl⟩ rfl rfl rfl rfl rfl (by kernel_rfl) Try.func7 (by kernel_rfl)
    (of_decide_eq_true (by kernel_rfl)) (by unfold Func.isWrapper; first | (rw [if_pos (by decide +kernel)]; kernel_rfl) | (rw [if_neg (by decide +kernel)]; exact ⟨rfl, rfl⟩))
    (fun os started H enc _ => lifted os started H enc)
#print axioms proved

end Go.Proofs.Ytdogjbblnjjaaaa.wireSizes
