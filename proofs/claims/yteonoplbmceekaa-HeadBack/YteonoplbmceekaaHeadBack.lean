/- HeadBack holds: for every header, every two numbers and every string, a header that may be written comes back with its counts, whatever stands behind it, and any twelve bytes are one header's. -/
import Derived.Test.YteonoplbmceekaaHdH
namespace Go.Proofs.Yteonoplbmceekaa.headBack
open Go.ChangeShapes Go.WideShapes Go.ChangeAt Go.RowKit
open Go.ChangeMaps (open_string shut_string)

/-- What Get gives of what Put gave, and more bytes. -/
theorem get_put (id : Int) (qr : Bool) (op : Int) (aa tc rd ra : Bool) (z rc a b c d : Int) (X s : ByteArray) (h : mayH id op z rc a b c d = true) (hX : X = putS id (wordH qr op aa tc rd ra z rc) a b c d 4) (hs : s.size ≤ 140737488351232) (u : World) :
    Calls Try.prog 9 #[.string (X ++ s)] u fun e w' => e = .returned (.tuple #[.agg (headV id qr op aa tc rd ra z rc), .agg (cntV a b c d), .int .i64 0]) ∧ Below u.heap.size u w' := by
  obtain ⟨h1, h2, h3, h4, h5, h6, h7, h8⟩ := mayH_iff.1 h
  have hw := word_lt (qr := qr) (aa := aa) (tc := tc) (rd := rd) (ra := ra) h2 h3 h4
  have I := fit_iff.1 h1
  have A := fit_iff.1 h5
  have B := fit_iff.1 h6
  have C := fit_iff.1 h7
  have D := fit_iff.1 h8
  have hz : (putS id (wordH qr op aa tc rd ra z rc) a b c d 4).size = 12 := by
    have := list12 id (wordH qr op aa tc rd ra z rc) a b c d
    rw [← data_len, this]; rfl
  have hz2 : (X ++ s).size = 12 + s.size := by rw [ByteArray.size_append, hX, hz]
  have k := get_yes (X ++ s) u (by rw [hz2]; unfold maxLen; omega) (by omega)
  obtain ⟨v0, v1, v2, v3, v4, v5⟩ := put_vals id (wordH qr op aa tc rd ra z rc) a b c d s
  have hc : cntC (X ++ s) 4 = cntV (val (X ++ s) 4 2) (val (X ++ s) 6 2) (val (X ++ s) 8 2) (val (X ++ s) 10 2) := rfl
  rw [hc] at k
  rw [hX] at k ⊢
  rw [v0, v1, v2, v3, v4, v5, Int.emod_eq_of_lt I.1 I.2, Int.emod_eq_of_lt hw.1 hw.2, Int.emod_eq_of_lt A.1 A.2, Int.emod_eq_of_lt B.1 B.2, Int.emod_eq_of_lt C.1 C.2, Int.emod_eq_of_lt D.1 D.2, head_back id qr op aa tc rd ra z rc h2 h3 h4] at k
  exact k

/-- What Put gives of what Get gave. -/
theorem put_get (s : ByteArray) (h : 12 ≤ s.size) : ∃ (id : Int) (qr : Bool) (op : Int) (aa tc rd ra : Bool) (z rc a b c d : Int), (∀ u : World, s.size ≤ maxLen → Calls Try.prog 9 #[.string s] u fun e w' => e = .returned (.tuple #[.agg (headV id qr op aa tc rd ra z rc), .agg (cntV a b c d), .int .i64 0]) ∧ Below u.heap.size u w') ∧
    ∀ u : World, Calls Try.prog 7 #[.agg (headV id qr op aa tc rd ra z rc), .agg (cntV a b c d)] u fun e w' => e = .returned (.tuple #[.string (s.extract 0 12), .int .i64 0]) ∧ Below u.heap.size u w' := by
  obtain ⟨v, hv⟩ : ∃ v, v = val s 2 2 := ⟨_, rfl⟩
  have hlt := val2_lt s 2
  rw [← hv] at hlt
  refine ⟨val s 0 2, (v / 32768 % 2 == 1), v / 2048 % 16, (v / 1024 % 2 == 1), (v / 512 % 2 == 1), (v / 256 % 2 == 1), (v / 128 % 2 == 1), v / 16 % 8, v / 1 % 16, val s 4 2, val s 6 2, val s 8 2, val s 10 2, fun u hs => ?_, fun u => ?_⟩
  · have k := get_yes s u hs h
    rw [← hv] at k
    exact k
  · have hm : mayH (val s 0 2) (v / 2048 % 16) (v / 16 % 8) (v / 1 % 16) (val s 4 2) (val s 6 2) (val s 8 2) (val s 10 2) = true :=
      mayH_iff.2 ⟨fit_iff.2 (val2_lt s 0), fit_iff.2 (by omega), fit_iff.2 (by omega), fit_iff.2 (by omega), fit_iff.2 (val2_lt s 4), fit_iff.2 (val2_lt s 6), fit_iff.2 (val2_lt s 8), fit_iff.2 (val2_lt s 10)⟩
    have k := put_yes (val s 0 2) (v / 32768 % 2 == 1) (v / 2048 % 16) (v / 1024 % 2 == 1) (v / 512 % 2 == 1) (v / 256 % 2 == 1) (v / 128 % 2 == 1) (v / 16 % 8) (v / 1 % 16) (val s 4 2) (val s 6 2) (val s 8 2) (val s 10 2) u hm
    rw [word_back v hlt.1 hlt.2, hv, put_back s h] at k
    rw [hv]
    exact k

/-- What Get gives of fewer bytes. -/
theorem get_few (s : ByteArray) (h : s.size < 12) (hs : s.size ≤ maxLen) (u : World) : Calls Try.prog 9 #[.string s] u fun e w' => e = .returned (.tuple #[.agg #[.int .i64 0, .bool false, .int .i64 0, .bool false, .bool false, .bool false, .bool false, .int .i64 0, .int .i64 0], .agg #[.int .i64 0, .int .i64 0, .int .i64 0, .int .i64 0], .int .i64 600]) ∧ Below u.heap.size u w' := get_no s u hs h

section
variable (id : Int) (qr : Bool) (op : Int) (aa tc rd ra : Bool) (z rc a b n0 n1 n2 n3 : Int) (s : ByteArray)

set_option maxRecDepth 20000 in
set_option maxHeartbeats 8000000 in
theorem no_few (w : World) (hs : s.size ≤ 140737488351232) (m0 : bits .and .i64 a 65535 = n0) (m1 : bits .and .i64 b 65535 = n1) (m2 : bits .and .i64 (a / 65536) 65535 = n2) (m3 : bits .and .i64 (b / 65536) 65535 = n3)
    (hm : mayH id op z rc n0 n1 n2 n3 = false) (h12 : s.size < 12) :
    Calls Try.prog 4 #[.agg (headV id qr op aa tc rd ra z rc), .int .i64 a, .int .i64 b, .string s] w fun e w' => e = .returned (.bool true) ∧ Below w.heap.size w w' := by
  have hb : Below w.heap.size w w := Below.refl _ _
  have hp := fun u => put_no id qr op aa tc rd ra z rc n0 n1 n2 n3 u hm
  have hg := get_few s h12 (by unfold maxLen; omega)
  have h12' : (s.size : Int) < 12 := by omega
  have q4 := eq4
  unfold headV cntV at hp
  unfold headV
  have kh := Blk.new w #[.int .i64 id, .bool qr, .int .i64 op, .bool aa, .bool tc, .bool rd, .bool ra, .int .i64 z, .int .i64 rc] 23
  go_enter Try.func4, Try.ntmps4
  go_wp2_with (first
    | (go_at_call 12; go_must (refine (awake_any _).mono ?_); rintro e w0 ⟨rfl, b0⟩; replace hb := next (lay hb _) b0; replace kh := kh.below b0; have klt := kh.lt; obtain ⟨c0, c1, c2, c3, c4, c5, c6, c7, c8⟩ := Blk.nine kh; clear b0)
    | (go_at_call 7; go_must (refine (hp _).mono ?_); rintro e w1 ⟨rfl, b1⟩; replace hb := next (lay hb _) b1; clear b1)
    | (go_at_call 9; go_must (refine (hg _).mono ?_); rintro e w2 ⟨rfl, b2⟩; replace hb := next hb b2; clear b2)
    | (go_at_call 11; refine (num_any _ _).mono ?_; rintro e w' ⟨rfl, hw⟩; obtain rfl := hw.symm))
  go_ret
  exact ⟨rfl, lay (lay hb _) _⟩
set_option maxRecDepth 20000 in
set_option maxHeartbeats 8000000 in
theorem no_many (w : World) (hs : s.size ≤ 140737488351232) (m0 : bits .and .i64 a 65535 = n0) (m1 : bits .and .i64 b 65535 = n1) (m2 : bits .and .i64 (a / 65536) 65535 = n2) (m3 : bits .and .i64 (b / 65536) 65535 = n3)
    (hm : mayH id op z rc n0 n1 n2 n3 = false) (h12 : 12 ≤ s.size) :
    Calls Try.prog 4 #[.agg (headV id qr op aa tc rd ra z rc), .int .i64 a, .int .i64 b, .string s] w fun e w' => e = .returned (.bool true) ∧ Below w.heap.size w w' := by
  have hb : Below w.heap.size w w := Below.refl _ _
  have hp := fun u => put_no id qr op aa tc rd ra z rc n0 n1 n2 n3 u hm
  unfold headV cntV at hp
  obtain ⟨i0, i1, i2, i3, i4, i5, i6, i7, i8, y0, y1, y2, y3, hg0, hp2⟩ := put_get s h12
  have hg := fun u => hg0 u (by unfold maxLen; omega)
  have hcut := cut_to s 12 12 rfl h12
  obtain ⟨T, hT⟩ : ∃ T, T = s.extract 0 12 := ⟨_, rfl⟩
  simp only [← hT] at hp2 hcut
  clear hT hg0
  unfold headV cntV at hg hp2
  have q4 := eq4
  unfold headV
  have kh := Blk.new w #[.int .i64 id, .bool qr, .int .i64 op, .bool aa, .bool tc, .bool rd, .bool ra, .int .i64 z, .int .i64 rc] 23
  have t1 : True := trivial
  have t2 : True := trivial
  go_enter Try.func4, Try.ntmps4
  go_wp2_with (first
    | (go_at_call 12; go_must (refine (awake_any _).mono ?_); rintro e w0 ⟨rfl, b0⟩; replace hb := next (lay hb _) b0; replace kh := kh.below b0; have klt := kh.lt; obtain ⟨c0, c1, c2, c3, c4, c5, c6, c7, c8⟩ := Blk.nine kh; clear b0)
    | (go_at_call 7; have _t := t1; go_must (refine (hp _).mono ?_); rintro e w1 ⟨rfl, b1⟩; replace hb := next (lay hb _) b1; replace kh := (kh.alloc _).below b1; have kc := (Blk.new w0 #[.int .i64 n0, .int .i64 n1, .int .i64 n2, .int .i64 n3] 24).below b1; clear b1 _t t1)
    | (go_at_call 9; go_must (refine (hg _).mono ?_); rintro e w3 ⟨rfl, b3⟩; replace hb := next hb b3; clear b3)
    | (go_at_call 7; go_must (refine (hp2 _).mono ?_); rintro e w4 ⟨rfl, b4⟩; replace hb := next (lay (lay hb _) _) b4; clear b4)
    | (go_at_call 11; refine (num_any _ _).mono ?_; rintro e w' ⟨rfl, hw⟩; obtain rfl := hw.symm))
  go_ret
  exact ⟨ret_bool (by simp), hb⟩

set_option maxRecDepth 20000 in
set_option maxHeartbeats 8000000 in
theorem yes_few (w : World) (hs : s.size ≤ 140737488351232) (m0 : bits .and .i64 a 65535 = n0) (m1 : bits .and .i64 b 65535 = n1) (m2 : bits .and .i64 (a / 65536) 65535 = n2) (m3 : bits .and .i64 (b / 65536) 65535 = n3)
    (hm : mayH id op z rc n0 n1 n2 n3 = true) (h12 : s.size < 12) :
    Calls Try.prog 4 #[.agg (headV id qr op aa tc rd ra z rc), .int .i64 a, .int .i64 b, .string s] w fun e w' => e = .returned (.bool true) ∧ Below w.heap.size w w' := by
  have hb : Below w.heap.size w w := Below.refl _ _
  have hp := fun u => put_yes id qr op aa tc rd ra z rc n0 n1 n2 n3 u hm
  obtain ⟨X, hX⟩ : ∃ X, X = putS id (wordH qr op aa tc rd ra z rc) n0 n1 n2 n3 4 := ⟨_, rfl⟩
  simp only [← hX] at hp
  have hg1 := get_put id qr op aa tc rd ra z rc n0 n1 n2 n3 X s hm hX hs
  have zX : X.size = 12 := by rw [hX, ← data_len, list12]; rfl
  have zX2 : X.size + s.size ≤ 140737488351300 := by omega
  clear hX
  unfold headV cntV at hp hg1
  have hg := get_few s h12 (by unfold maxLen; omega)
  have h12' : (s.size : Int) < 12 := by omega
  have q4 := eq4
  unfold headV
  have kh := Blk.new w #[.int .i64 id, .bool qr, .int .i64 op, .bool aa, .bool tc, .bool rd, .bool ra, .int .i64 z, .int .i64 rc] 23
  have t1 : True := trivial
  have t2 : True := trivial
  go_enter Try.func4, Try.ntmps4
  go_wp2_with (first
    | (go_at_call 12; go_must (refine (awake_any _).mono ?_); rintro e w0 ⟨rfl, b0⟩; replace hb := next (lay hb _) b0; replace kh := kh.below b0; have klt := kh.lt; obtain ⟨c0, c1, c2, c3, c4, c5, c6, c7, c8⟩ := Blk.nine kh; clear b0)
    | (go_at_call 7; have _t := t1; go_must (refine (hp _).mono ?_); rintro e w1 ⟨rfl, b1⟩; replace hb := next (lay hb _) b1; replace kh := (kh.alloc _).below b1; have kc := (Blk.new w0 #[.int .i64 n0, .int .i64 n1, .int .i64 n2, .int .i64 n3] 24).below b1; clear b1 _t t1)
    | (go_at_call 9; have _t := t2; go_must (refine (hg1 _).mono ?_); rintro e w2 ⟨rfl, b2⟩; replace hb := next hb b2; replace kh := kh.below b2; replace kc := kc.below b2; have l1 := kh.lt; have l2 := kc.lt; obtain ⟨c0, c1, c2, c3, c4, c5, c6, c7, c8⟩ := Blk.nine kh; obtain ⟨d0, d1, d2, d3⟩ := Blk.four kc; clear b2 _t t2)
    | (go_at_call 9; go_must (refine (hg _).mono ?_); rintro e w3 ⟨rfl, b3⟩; replace hb := next (lay (lay hb _) _) b3; clear b3)
    | (go_at_call 11; refine (num_any _ _).mono ?_; rintro e w' ⟨rfl, hw⟩; obtain rfl := hw.symm))
  go_ret
  exact ⟨rfl, lay (lay hb _) _⟩

set_option maxRecDepth 20000 in
set_option maxHeartbeats 8000000 in
theorem yes_many (w : World) (hs : s.size ≤ 140737488351232) (m0 : bits .and .i64 a 65535 = n0) (m1 : bits .and .i64 b 65535 = n1) (m2 : bits .and .i64 (a / 65536) 65535 = n2) (m3 : bits .and .i64 (b / 65536) 65535 = n3)
    (hm : mayH id op z rc n0 n1 n2 n3 = true) (h12 : 12 ≤ s.size) :
    Calls Try.prog 4 #[.agg (headV id qr op aa tc rd ra z rc), .int .i64 a, .int .i64 b, .string s] w fun e w' => e = .returned (.bool true) ∧ Below w.heap.size w w' := by
  have hb : Below w.heap.size w w := Below.refl _ _
  have hp := fun u => put_yes id qr op aa tc rd ra z rc n0 n1 n2 n3 u hm
  obtain ⟨X, hX⟩ : ∃ X, X = putS id (wordH qr op aa tc rd ra z rc) n0 n1 n2 n3 4 := ⟨_, rfl⟩
  simp only [← hX] at hp
  have hg1 := get_put id qr op aa tc rd ra z rc n0 n1 n2 n3 X s hm hX hs
  have zX : X.size = 12 := by rw [hX, ← data_len, list12]; rfl
  have zX2 : X.size + s.size ≤ 140737488351300 := by omega
  clear hX
  unfold headV cntV at hp hg1
  obtain ⟨i0, i1, i2, i3, i4, i5, i6, i7, i8, y0, y1, y2, y3, hg0, hp2⟩ := put_get s h12
  have hg := fun u => hg0 u (by unfold maxLen; omega)
  have hcut := cut_to s 12 12 rfl h12
  obtain ⟨T, hT⟩ : ∃ T, T = s.extract 0 12 := ⟨_, rfl⟩
  simp only [← hT] at hp2 hcut
  clear hT hg0
  unfold headV cntV at hg hp2
  have q4 := eq4
  unfold headV
  have kh := Blk.new w #[.int .i64 id, .bool qr, .int .i64 op, .bool aa, .bool tc, .bool rd, .bool ra, .int .i64 z, .int .i64 rc] 23
  have t1 : True := trivial
  have t2 : True := trivial
  go_enter Try.func4, Try.ntmps4
  go_wp2_with (first
    | (go_at_call 12; go_must (refine (awake_any _).mono ?_); rintro e w0 ⟨rfl, b0⟩; replace hb := next (lay hb _) b0; replace kh := kh.below b0; have klt := kh.lt; obtain ⟨c0, c1, c2, c3, c4, c5, c6, c7, c8⟩ := Blk.nine kh; clear b0)
    | (go_at_call 7; have _t := t1; go_must (refine (hp _).mono ?_); rintro e w1 ⟨rfl, b1⟩; replace hb := next (lay hb _) b1; replace kh := (kh.alloc _).below b1; have kc := (Blk.new w0 #[.int .i64 n0, .int .i64 n1, .int .i64 n2, .int .i64 n3] 24).below b1; clear b1 _t t1)
    | (go_at_call 9; have _t := t2; go_must (refine (hg1 _).mono ?_); rintro e w2 ⟨rfl, b2⟩; replace hb := next hb b2; replace kh := kh.below b2; replace kc := kc.below b2; have l1 := kh.lt; have l2 := kc.lt; obtain ⟨c0, c1, c2, c3, c4, c5, c6, c7, c8⟩ := Blk.nine kh; obtain ⟨d0, d1, d2, d3⟩ := Blk.four kc; clear b2 _t t2)
    | (go_at_call 9; go_must (refine (hg _).mono ?_); rintro e w3 ⟨rfl, b3⟩; replace hb := next (lay (lay hb _) _) b3; clear b3)
    | (go_at_call 7; go_must (refine (hp2 _).mono ?_); rintro e w4 ⟨rfl, b4⟩; replace hb := next (lay (lay hb _) _) b4; clear b4)
    | (go_at_call 11; refine (num_any _ _).mono ?_; rintro e w' ⟨rfl, hw⟩; obtain rfl := hw.symm))
  go_ret
  exact ⟨ret_bool (by simp), hb⟩

end

theorem walk (id : Int) (qr : Bool) (op : Int) (aa tc rd ra : Bool) (z rc a b : Int) (s : ByteArray) (_ : (Lit.int .i64 a).wf = true) (_ : (Lit.int .i64 b).wf = true) (_ : s.size ≤ maxLen) (hs : s.size ≤ 140737488351232) (w : World) :
    Calls Try.prog 4 #[.agg (headV id qr op aa tc rd ra z rc), .int .i64 a, .int .i64 b, .string s] w fun e w' => e = .returned (.bool true) ∧ Below w.heap.size w w' := by
  by_cases h12 : 12 ≤ s.size
  · cases hm : mayH id op z rc (a % 65536) (b % 65536) (a / 65536 % 65536) (b / 65536 % 65536) with
    | true => exact yes_many id qr op aa tc rd ra z rc a b _ _ _ _ s w hs (mask16 _) (mask16 _) (mask16 _) (mask16 _) hm h12
    | false => exact no_many id qr op aa tc rd ra z rc a b _ _ _ _ s w hs (mask16 _) (mask16 _) (mask16 _) (mask16 _) hm h12
  · cases hm : mayH id op z rc (a % 65536) (b % 65536) (a / 65536 % 65536) (b / 65536 % 65536) with
    | true => exact yes_few id qr op aa tc rd ra z rc a b _ _ _ _ s w hs (mask16 _) (mask16 _) (mask16 _) (mask16 _) hm (by omega)
    | false => exact no_few id qr op aa tc rd ra z rc a b _ _ _ _ s w hs (mask16 _) (mask16 _) (mask16 _) (mask16 _) hm (by omega)

theorem own : ownKnob Try.prog.godebug = none := by kernel_rfl
theorem laidOut : laidOutB Try.prog = true := by kernel_rfl

set_option maxRecDepth 100000 in
theorem lifted (os : Os) (started : os.Started) (H : Type) (enc : TypeId × Value → H) :
    ReturnsInHanded {} Try.checked os 4 .any (Rows.headBackSpec.pre6 enc Try.prog Try.f4 Rows.headBackRow.domain false) (Rows.headBackSpec.post enc Try.prog Try.f4 false true false false) := by
  refine returnsInHanded_of_change_sized (C := Try.checked) own started (by kernel_rfl) Try.func4
    (ChangeSpec.witness6 (enc := enc) (C := Try.checked) false ⟨#[], #[.agg headZ, .int .i64 0, .int .i64 0, .string ByteArray.empty], []⟩ 8 (by kernel_rfl) (by kernel_rfl) (by kernel_rfl) (by kernel_rfl)) ?_
  intro W base args ds gs before hval0 hW _ hsz0 _
  have hval : ∀ (j : Nat) t v, Try.f4.params[j]? = some t → args[j]? = some v → Value.okWide Try.prog W .any base t v := hval0
  have hsz : (DataW.weightsEach Try.prog (Try.f4.params.toList ++ Rows.headBackSpec.plain.varTypes Try.prog) (ds ++ gs)).all (· ≤ reachBytes) = true := hsz0
  have hW' := hW
  obtain ⟨p, q, hA0, hV, rfl, hfz, hnd⟩ := hW
  have hA : DataW.TrodAll enc Try.prog W 0 (fun _ => true) true Try.f4.params.toList args.toList ds p := hA0
  rw [Try.params4] at hA hval hsz
  obtain ⟨v0, vs0, d0, ds0, p0, q0, hargs, rfl, rfl, h0, r0⟩ := trodAll_cons hA
  obtain ⟨v1, vs1, d1, ds1, p1, q1, rfl, rfl, rfl, h1, r1⟩ := trodAll_cons r0
  obtain ⟨v2, vs2, d2, ds2, p2, q2, rfl, rfl, rfl, h2, r2⟩ := trodAll_cons r1
  obtain ⟨v3, vs3, d3, ds3, p3, q3, rfl, rfl, rfl, h3, r3⟩ := trodAll_cons r2
  obtain ⟨rfl, rfl, rfl⟩ := trodAll_nil r3
  obtain rfl : args = #[v0, v1, v2, v3] := by cases args; simp_all
  obtain ⟨rfl, rfl⟩ := trodVars_none hV
  obtain ⟨a0i, a0q, a0o, a0a, a0t, a0d, a0r, a0z, a0c, rfl, rfl⟩ := open_head (hval 0 23 v0 rfl rfl) h0
  obtain ⟨a1, rfl, rfl, rfl, w1⟩ := open_int Try.underlying3 (hval 1 3 v1 rfl rfl) h1
  obtain ⟨a2, rfl, rfl, rfl, w2⟩ := open_int Try.underlying3 (hval 2 3 v2 rfl rfl) h2
  obtain ⟨a3, rfl, rfl, rfl, w3⟩ := open_string Try.underlying9 (hval 3 9 v3 rfl rfl) h3
  have z3 : a3.size ≤ 140737488351232 := by have := sized_string hsz (j := 3) (t := 9) rfl rfl; rw [data_len] at this; unfold reachBytes at this; omega
  clear hA0 hval0 hsz0 hsz
  simp only [List.append_nil] at hW'
  refine (walk a0i a0q a0o a0a a0t a0d a0r a0z a0c a1 a2 a3 w1 w2 w3 z3 W ).mono fun e W' ⟨he, bel⟩ => ?_
  subst he
  exact ⟨_, rfl, _, _, _, [], [], [], hW', trodAll_mk1 (shut_bool Try.underlying4 _), (trodAll_cons_mk (Below.trod laidOut (by kernel_rfl) (of_decide_eq_true (by kernel_rfl)) h0 bel (by simp)) (trodAll_cons_mk (shut_int Try.underlying3 w1) (trodAll_cons_mk (shut_int Try.underlying3 w2) (trodAll_cons_mk (shut_string Try.underlying9 w3) trodAll_mk0)))), rfl, bel.frame _, fun h => by cases h⟩

/-- The statement. -/
theorem proved : Rows.HeadBackSaid :=
  OpenClaim.holds_of_wide 4 Try.f4 rfl rfl rfl rfl rfl rfl rfl ⟨rfl, rfl, rfl, rfl, rfl⟩ rfl rfl rfl rfl rfl (by kernel_rfl) Try.func4 (by kernel_rfl)
    (of_decide_eq_true (by kernel_rfl)) (by unfold Func.isWrapper; first | (rw [if_pos (by decide +kernel)]; kernel_rfl) | (rw [if_neg (by decide +kernel)]; exact ⟨rfl, rfl⟩))
    (fun os started H enc _ => lifted os started H enc)
#print axioms proved

end Go.Proofs.Yteonoplbmceekaa.headBack
