/- OptCuts holds: for every text and every two numbers, an OPT's data that is cut, another name, another type is none. -/
import Derived.Test.YtehldafdjldpbaaOpI
import Derived.ProofKit
import Derived.OpenShut
import Derived.ShutString
namespace Go.Proofs.Ytehldafdjldpbaa.optCuts
open Go.ChangeShapes Go.WideShapes Go.ChangeAt Go.RowKit
open Go.ChangeMaps (open_string shut_string)

theorem d_may {D : ByteArray} (h : D.size ≤ 500) : mayOt ⟨0, 0, 0, false, 0, [⟨7, D⟩]⟩ = true := by
  unfold mayOt
  rw [mayOs_yes (fun o ho => by simp at ho; subst ho; show fitO 65536 7 = true; decide) (by rw [osB_cons, osB_nil, List.append_nil, oB_len]; show 4 + D.size ≤ 65535; omega)]
  show ((fitO 65536 0 && fitO 256 0 && fitO 256 0 && fitO 32768 0) && true) = true
  decide
theorem d_put {D : ByteArray} (h : D.size ≤ 500) : ∃ T : ByteArray, T.size = D.size + 4 ∧ putO ⟨0, 0, 0, false, 0, [⟨7, D⟩]⟩ = ⟨rootB, 41, 0, 0, T⟩ ∧ putE ⟨0, 0, 0, false, 0, [⟨7, D⟩]⟩ = 0 ∧ T.data.toList = oB ⟨7, D⟩ := by
  refine ⟨⟨(osB [⟨7, D⟩]).toArray⟩, ?_, ?_, ?_, ?_⟩
  · rw [toArr_size, osB_cons, osB_nil, List.append_nil, oB_len]; show 4 + D.size = _; omega
  · unfold putO; rw [if_pos (d_may h)]; rfl
  · unfold putE; rw [if_pos (d_may h)]
  · show (osB [⟨7, D⟩]).toArray.toList = _; rw [osB_cons, osB_nil, List.append_nil]
theorem d_cut {D T : ByteArray} (h : D.size ≤ 500) (hT : T.data.toList = oB ⟨7, D⟩) {p : Nat} (h0 : 1 ≤ p) (h1 : p < D.size + 4) : rdL (T.extract 0 p).data.toList = none := by
  rw [ext_to, hT]
  have hl : (oB ⟨7, D⟩).length = 4 + D.size := oB_len _
  by_cases h4 : p < 4
  · refine rdL_short (fun e => ?_) (by rw [List.length_take]; omega)
    have := congrArg List.length e
    rw [List.length_take, hl] at this
    simp only [List.length_nil] at this
    omega
  · obtain ⟨q, rfl⟩ : ∃ q, p = q + 4 := ⟨p - 4, by omega⟩
    unfold oB
    simp only [List.cons_append, List.nil_append, List.take_succ_cons]
    rw [rdL_cons, two_oct _ (fitO_iff.2 ⟨by omega, by omega⟩), Int.toNat_natCast, if_neg]
    rw [List.length_take, data_len]
    omega
theorem d_get {D T : ByteArray} (h : D.size ≤ 500) (hp : putO ⟨0, 0, 0, false, 0, [⟨7, D⟩]⟩ = ⟨rootB, 41, 0, 0, T⟩) (t : Int) : ∃ E, getE ⟨rootB, t, 0, 0, T⟩ = E ∧ (E == 0) = (t == 41) := by
  by_cases ht : t = 41
  · subst ht
    have := (put_get (d_may h)).2
    rw [hp] at this
    exact ⟨0, this, by simp⟩
  · refine ⟨800, (get_no ?_).2, ?_⟩
    · unfold mayRc
      have : (t == 41) = false := by simpa using ht
      simp only [this]
      simp
    · have : (t == 41) = false := by simpa using ht
      rw [this]; rfl
theorem p_p {D T : ByteArray} {v : Value} (u : World) (hp : putO ⟨0, 0, 0, false, 0, [⟨7, D⟩]⟩ = ⟨rootB, 41, 0, 0, T⟩) (he : putE ⟨0, 0, 0, false, 0, [⟨7, D⟩]⟩ = 0) (hr : ORow u v [⟨7, D⟩]) : Calls Try.prog 9 #[.agg #[.int .i64 0, .int .i64 0, .int .i64 0, .bool false, .int .i64 0, v]] u fun e w' => e = .returned (.tuple #[.agg #[.string ⟨#[0]⟩, .int .i64 41, .int .i64 0, .int .i64 0, .string T], .int .i64 0]) ∧ Below u.heap.size u w' := by
  have := optPut_any ⟨0, 0, 0, false, 0, [⟨7, D⟩]⟩ v u hr
  unfold putOV at this
  rw [hp, he] at this
  exact this
/-- Get, of which only the error's number is asked. -/
theorem g_g (n : ByteArray) (t : Int) (d : ByteArray) (E : Int) (u : World) (hd : d.size ≤ maxLen) (h : getE ⟨n, t, 0, 0, d⟩ = E) : Calls Try.prog 11 #[.agg #[.string n, .int .i64 t, .int .i64 0, .int .i64 0, .string d]] u fun e w' => ∃ (a b c : Int) (f : Bool) (g : Int) (y : Option Addr) (m cap : Nat), e = .returned (.tuple #[.agg #[.int .i64 a, .int .i64 b, .int .i64 c, .bool f, .int .i64 g, .slice y m cap], .int .i64 E]) ∧ Below u.heap.size u w' := by
  have := optGet_any ⟨n, t, 0, 0, d⟩ u hd
  rw [h] at this
  exact this.mono fun e w' ⟨y, m, cap, he, _, hb⟩ => ⟨_, _, _, _, _, y, m, cap, he, hb⟩
theorem y_no (T : ByteArray) : getE ⟨⟨#[1, 97, 0]⟩, 41, 0, 0, T⟩ = 800 := (get_no (by unfold mayRc; rw [show decide ((⟨#[1, 97, 0]⟩ : ByteArray) = rootB) = false from by decide]; rfl)).2

set_option maxRecDepth 20000 in
set_option maxHeartbeats 4000000 in
theorem short (data : ByteArray) (cut t : Int) (hs : data.size ≤ maxLen) (hl : data.size ≤ 500) (w : World) :
    Calls Try.prog 6 #[.string data, .int .i64 cut, .int .i64 t] w fun e w' => e = .returned (.bool true) ∧ Below w.heap.size w w' := by
  have hs := hs
  unfold maxLen at hs
  have hl' : decide ((500 : Int) < (data.size : Int)) = false := by simp; omega
  obtain ⟨T, hT, hp, he, hTl⟩ := d_put hl
  have hzT : ((T.size : Int) == (data.size : Int) + 4) = true := by simp; omega
  have P1 := fun (v : Value) (u : World) (h : ORow u v [⟨7, data⟩]) => p_p u hp he h
  obtain ⟨U, hU⟩ : ∃ U, IntKind.u64.wrap cut = U := ⟨_, rfl⟩
  have hU0 : 0 ≤ U := by
    have : IntKind.u64.wrap cut = cut % 18446744073709551616 := by simp [IntKind.wrap, IntKind.bits, IntKind.signed]
    rw [← hU, this]; omega
  obtain ⟨R, hR⟩ : ∃ R : Nat, U.tmod ((T.size : Int) - 1) = (R : Int) := ⟨(U.tmod ((T.size : Int) - 1)).toNat, by rw [Int.tmod_eq_emod_of_nonneg hU0]; have := Int.emod_nonneg U (b := (T.size : Int) - 1) (by omega); omega⟩
  have hR1 : R + 1 < T.size := by
    have h1 := Int.tmod_eq_emod_of_nonneg (b := (T.size : Int) - 1) hU0
    have h2 := Int.emod_lt_of_pos U (b := (T.size : Int) - 1) (by omega)
    omega
  have hcutT := cut_to T (R + 1) (1 + (R : Int)) (by omega) (by omega)
  have hx : getE ⟨rootB, 41, 0, 0, T.extract 0 (R + 1)⟩ = 800 := (get_none (d_cut hl hTl (by omega) (by omega))).2
  have hXs : (T.extract 0 (R + 1)).size ≤ 100000 := by simp; omega
  obtain ⟨X, hX⟩ : ∃ X, X = T.extract 0 (R + 1) := ⟨_, rfl⟩
  rw [← hX] at hcutT hx hXs
  obtain ⟨E, hE, hE2⟩ := d_get hl hp t
  obtain ⟨bt, hbt⟩ : ∃ b, (t == 41) = b := ⟨_, rfl⟩
  rw [hbt] at hE2
  have hT5 : T.size ≤ 504 := by omega
  have hT1 : 4 ≤ T.size := by omega
  have G1 := fun u => g_g _ _ _ _ u (small100 hXs) hx
  have G2 := fun u => g_g _ _ _ _ u (small100 (by omega)) (y_no T)
  have G3 := fun u => g_g _ _ _ _ u (small100 (by omega)) hE
  unfold rootB at G1 G3
  have HF : Hid (data.size ≤ far) := by unfold Hid far; omega
  have wu : IntKind.u64.wrap ((T.size : Int) - 1) = (T.size : Int) - 1 := by
    have : IntKind.u64.wrap ((T.size : Int) - 1) = ((T.size : Int) - 1) % 18446744073709551616 := by simp [IntKind.wrap, IntKind.bits, IntKind.signed]
    rw [this]; omega
  have wR : IntKind.i64.wrap (R : Int) = (R : Int) := by rw [IntKind.wrap_i64]; omega
  have wR1 : IntKind.i64.wrap (1 + (R : Int)) = 1 + (R : Int) := by rw [IntKind.wrap_i64]; omega
  have wT1 : IntKind.i64.wrap ((T.size : Int) - 1) = (T.size : Int) - 1 := by rw [IntKind.wrap_i64]; omega
  clear hX hx hE hp he hTl hT
  have hb : Below w.heap.size w w := Below.refl _ _
  have t1 : True := trivial
  have t2 : True := trivial
  go_enter Try.func6, Try.ntmps6
  go_wp2_with (first
    | (go_at_call 19; go_must (refine (awake_any _).mono ?_); rintro e w0 ⟨rfl, bb⟩; replace hb := next hb bb; clear bb)
    | (go_at_call 15; refine (num_any _ _).mono ?_; rintro e w' ⟨rfl, hw⟩; obtain rfl := hw.symm)
    | (go_at_call 9; go_must (refine (P1 _ _ (orow_lit (o := ⟨7, data⟩) (Blk.new w0 (oV ⟨7, data⟩).toArray 52) HF.out)).mono ?_); rintro e w1 ⟨rfl, bb⟩; have kr := Blk.new w1 #[.string ⟨#[0]⟩, .int .i64 41, .int .i64 0, .int .i64 0, .string T] 26; replace hb := lay (next (lay hb _) bb) (.cells #[.string ⟨#[0]⟩, .int .i64 41, .int .i64 0, .int .i64 0, .string T] 26); clear bb))
  go_region
  have kr2 : Blk ((w1.alloc (.cells #[.string ⟨#[0]⟩, .int .i64 41, .int .i64 0, .int .i64 0, .string T] 26)).alloc (.cells #[.string ⟨#[0]⟩, .int .i64 41, .int .i64 0, .int .i64 0, .string X] 26)).drew w1.heap.size #[.string ⟨#[0]⟩, .int .i64 41, .int .i64 0, .int .i64 0, .string T] 26 := (kr.alloc (.cells #[.string ⟨#[0]⟩, .int .i64 41, .int .i64 0, .int .i64 0, .string X] 26)).drew ⟨1, rfl⟩
  have kx2 : Blk ((w1.alloc (.cells #[.string ⟨#[0]⟩, .int .i64 41, .int .i64 0, .int .i64 0, .string T] 26)).alloc (.cells #[.string ⟨#[0]⟩, .int .i64 41, .int .i64 0, .int .i64 0, .string X] 26)).drew (w1.heap.size + 1) #[.string ⟨#[0]⟩, .int .i64 41, .int .i64 0, .int .i64 0, .string X] 26 := by
    have h := Blk.new (w1.alloc (.cells #[.string ⟨#[0]⟩, .int .i64 41, .int .i64 0, .int .i64 0, .string T] 26)) #[.string ⟨#[0]⟩, .int .i64 41, .int .i64 0, .int .i64 0, .string X] 26
    rw [show (w1.alloc (.cells #[.string ⟨#[0]⟩, .int .i64 41, .int .i64 0, .int .i64 0, .string T] 26)).heap.size = w1.heap.size + 1 from by simp] at h
    exact h.drew ⟨1, rfl⟩
  have hb2 : Below w.heap.size w ((w1.alloc (.cells #[.string ⟨#[0]⟩, .int .i64 41, .int .i64 0, .int .i64 0, .string T] 26)).alloc (.cells #[.string ⟨#[0]⟩, .int .i64 41, .int .i64 0, .int .i64 0, .string X] 26)).drew := next (lay hb (.cells #[.string ⟨#[0]⟩, .int .i64 41, .int .i64 0, .int .i64 0, .string X] 26)) (below_drew ⟨1, rfl⟩)
  clear kr hb
  revert kr2 kx2 hb2
  generalize ((w1.alloc (.cells #[.string ⟨#[0]⟩, .int .i64 41, .int .i64 0, .int .i64 0, .string T] 26)).alloc (.cells #[.string ⟨#[0]⟩, .int .i64 41, .int .i64 0, .int .i64 0, .string X] 26)).drew = wq
  generalize w1.heap.size = gr
  intro kr kx hb
  obtain ⟨x0, x1, x2, x3, x4⟩ := kx.five'
  go_wp2_with (first
    | (go_at_call 15; refine (num_any _ _).mono ?_; rintro e w' ⟨rfl, hw⟩; obtain rfl := hw.symm)
    | (go_at_call 11; have _t := t1; go_must (refine (G1 _).mono ?_); rintro e w2 ⟨a2, b2, c2, f2, g2, y2, m2, k2, rfl, bb⟩; replace bb := next bb (lay (Below.refl _ _) (.cells #[.int .i64 a2, .int .i64 b2, .int .i64 c2, .bool f2, .int .i64 g2, .slice y2 m2 k2] 24)); replace kr := kr.below bb; replace hb := next hb bb; clear x0 x1 x2 x3 x4; obtain ⟨x0, x1, x2, x3, x4⟩ := kr.five'; clear bb t1 _t)
    | (go_at_call 11; have _t := t2; go_must (refine (G2 _).mono ?_); rintro e w3 ⟨a3, b3, c3, f3, g3, y3, m3, k3, rfl, bb⟩; replace bb := next bb (lay (Below.refl _ _) (.cells #[.int .i64 a3, .int .i64 b3, .int .i64 c3, .bool f3, .int .i64 g3, .slice y3 m3 k3] 24)); replace kr := (kr.alloc _).below bb; replace hb := next (lay hb _) bb; clear x0 x1 x2 x3 x4; obtain ⟨x0, x1, x2, x3, x4⟩ := kr.five'; clear bb t2 _t)
    | (go_at_call 11; go_must (refine (G3 _).mono ?_); rintro e w4 ⟨a4, b4, c4, f4, g4, y4, m4, k4, rfl, bb⟩; replace bb := next bb (lay (Below.refl _ _) (.cells #[.int .i64 a4, .int .i64 b4, .int .i64 c4, .bool f4, .int .i64 g4, .slice y4 m4 k4] 24)); replace hb := next (lay hb _) bb; clear bb))
  go_ret
  exact ⟨ret_bool (by simp), hb⟩

set_option maxRecDepth 20000 in
set_option maxHeartbeats 4000000 in
theorem long (data : ByteArray) (cut t : Int) (hs : data.size ≤ maxLen) (hl : 500 < data.size) (w : World) :
    Calls Try.prog 6 #[.string data, .int .i64 cut, .int .i64 t] w fun e w' => e = .returned (.bool true) ∧ Below w.heap.size w w' := by
  have hs := hs
  unfold maxLen at hs
  have hl' : (500 : Int) < (data.size : Int) := by omega
  have hc5 := cut_to data 500 500 rfl (by omega)
  have hD5 : (data.extract 0 500).size = 500 := by simp; omega
  obtain ⟨D, hD⟩ : ∃ D, D = data.extract 0 500 := ⟨_, rfl⟩
  rw [← hD] at hc5 hD5
  clear hD
  replace hl : D.size ≤ 500 := by omega
  obtain ⟨T, hT, hp, he, hTl⟩ := d_put hl
  have hzT : ((T.size : Int) == (D.size : Int) + 4) = true := by simp; omega
  have P1 := fun (v : Value) (u : World) (h : ORow u v [⟨7, D⟩]) => p_p u hp he h
  obtain ⟨U, hU⟩ : ∃ U, IntKind.u64.wrap cut = U := ⟨_, rfl⟩
  have hU0 : 0 ≤ U := by
    have : IntKind.u64.wrap cut = cut % 18446744073709551616 := by simp [IntKind.wrap, IntKind.bits, IntKind.signed]
    rw [← hU, this]; omega
  obtain ⟨R, hR⟩ : ∃ R : Nat, U.tmod ((T.size : Int) - 1) = (R : Int) := ⟨(U.tmod ((T.size : Int) - 1)).toNat, by rw [Int.tmod_eq_emod_of_nonneg hU0]; have := Int.emod_nonneg U (b := (T.size : Int) - 1) (by omega); omega⟩
  have hR1 : R + 1 < T.size := by
    have h1 := Int.tmod_eq_emod_of_nonneg (b := (T.size : Int) - 1) hU0
    have h2 := Int.emod_lt_of_pos U (b := (T.size : Int) - 1) (by omega)
    omega
  have hcutT := cut_to T (R + 1) (1 + (R : Int)) (by omega) (by omega)
  have hx : getE ⟨rootB, 41, 0, 0, T.extract 0 (R + 1)⟩ = 800 := (get_none (d_cut hl hTl (by omega) (by omega))).2
  have hXs : (T.extract 0 (R + 1)).size ≤ 100000 := by simp; omega
  obtain ⟨X, hX⟩ : ∃ X, X = T.extract 0 (R + 1) := ⟨_, rfl⟩
  rw [← hX] at hcutT hx hXs
  obtain ⟨E, hE, hE2⟩ := d_get hl hp t
  obtain ⟨bt, hbt⟩ : ∃ b, (t == 41) = b := ⟨_, rfl⟩
  rw [hbt] at hE2
  have hT5 : T.size ≤ 504 := by omega
  have hT1 : 4 ≤ T.size := by omega
  have G1 := fun u => g_g _ _ _ _ u (small100 hXs) hx
  have G2 := fun u => g_g _ _ _ _ u (small100 (by omega)) (y_no T)
  have G3 := fun u => g_g _ _ _ _ u (small100 (by omega)) hE
  unfold rootB at G1 G3
  have HF : Hid (D.size ≤ far) := by unfold Hid far; omega
  have wu : IntKind.u64.wrap ((T.size : Int) - 1) = (T.size : Int) - 1 := by
    have : IntKind.u64.wrap ((T.size : Int) - 1) = ((T.size : Int) - 1) % 18446744073709551616 := by simp [IntKind.wrap, IntKind.bits, IntKind.signed]
    rw [this]; omega
  have wR : IntKind.i64.wrap (R : Int) = (R : Int) := by rw [IntKind.wrap_i64]; omega
  have wR1 : IntKind.i64.wrap (1 + (R : Int)) = 1 + (R : Int) := by rw [IntKind.wrap_i64]; omega
  have wT1 : IntKind.i64.wrap ((T.size : Int) - 1) = (T.size : Int) - 1 := by rw [IntKind.wrap_i64]; omega
  clear hX hx hE hp he hTl hT
  have hb : Below w.heap.size w w := Below.refl _ _
  have t1 : True := trivial
  have t2 : True := trivial
  go_enter Try.func6, Try.ntmps6
  go_wp2_with (first
    | (go_at_call 19; go_must (refine (awake_any _).mono ?_); rintro e w0 ⟨rfl, bb⟩; replace hb := next hb bb; clear bb)
    | (go_at_call 15; refine (num_any _ _).mono ?_; rintro e w' ⟨rfl, hw⟩; obtain rfl := hw.symm)
    | (go_at_call 9; go_must (refine (P1 _ _ (orow_lit (o := ⟨7, D⟩) (Blk.new w0 (oV ⟨7, D⟩).toArray 52) HF.out)).mono ?_); rintro e w1 ⟨rfl, bb⟩; have kr := Blk.new w1 #[.string ⟨#[0]⟩, .int .i64 41, .int .i64 0, .int .i64 0, .string T] 26; replace hb := lay (next (lay hb _) bb) (.cells #[.string ⟨#[0]⟩, .int .i64 41, .int .i64 0, .int .i64 0, .string T] 26); clear bb))
  go_region
  have kr2 : Blk ((w1.alloc (.cells #[.string ⟨#[0]⟩, .int .i64 41, .int .i64 0, .int .i64 0, .string T] 26)).alloc (.cells #[.string ⟨#[0]⟩, .int .i64 41, .int .i64 0, .int .i64 0, .string X] 26)).drew w1.heap.size #[.string ⟨#[0]⟩, .int .i64 41, .int .i64 0, .int .i64 0, .string T] 26 := (kr.alloc (.cells #[.string ⟨#[0]⟩, .int .i64 41, .int .i64 0, .int .i64 0, .string X] 26)).drew ⟨1, rfl⟩
  have kx2 : Blk ((w1.alloc (.cells #[.string ⟨#[0]⟩, .int .i64 41, .int .i64 0, .int .i64 0, .string T] 26)).alloc (.cells #[.string ⟨#[0]⟩, .int .i64 41, .int .i64 0, .int .i64 0, .string X] 26)).drew (w1.heap.size + 1) #[.string ⟨#[0]⟩, .int .i64 41, .int .i64 0, .int .i64 0, .string X] 26 := by
    have h := Blk.new (w1.alloc (.cells #[.string ⟨#[0]⟩, .int .i64 41, .int .i64 0, .int .i64 0, .string T] 26)) #[.string ⟨#[0]⟩, .int .i64 41, .int .i64 0, .int .i64 0, .string X] 26
    rw [show (w1.alloc (.cells #[.string ⟨#[0]⟩, .int .i64 41, .int .i64 0, .int .i64 0, .string T] 26)).heap.size = w1.heap.size + 1 from by simp] at h
    exact h.drew ⟨1, rfl⟩
  have hb2 : Below w.heap.size w ((w1.alloc (.cells #[.string ⟨#[0]⟩, .int .i64 41, .int .i64 0, .int .i64 0, .string T] 26)).alloc (.cells #[.string ⟨#[0]⟩, .int .i64 41, .int .i64 0, .int .i64 0, .string X] 26)).drew := next (lay hb (.cells #[.string ⟨#[0]⟩, .int .i64 41, .int .i64 0, .int .i64 0, .string X] 26)) (below_drew ⟨1, rfl⟩)
  clear kr hb
  revert kr2 kx2 hb2
  generalize ((w1.alloc (.cells #[.string ⟨#[0]⟩, .int .i64 41, .int .i64 0, .int .i64 0, .string T] 26)).alloc (.cells #[.string ⟨#[0]⟩, .int .i64 41, .int .i64 0, .int .i64 0, .string X] 26)).drew = wq
  generalize w1.heap.size = gr
  intro kr kx hb
  obtain ⟨x0, x1, x2, x3, x4⟩ := kx.five'
  go_wp2_with (first
    | (go_at_call 15; refine (num_any _ _).mono ?_; rintro e w' ⟨rfl, hw⟩; obtain rfl := hw.symm)
    | (go_at_call 11; have _t := t1; go_must (refine (G1 _).mono ?_); rintro e w2 ⟨a2, b2, c2, f2, g2, y2, m2, k2, rfl, bb⟩; replace bb := next bb (lay (Below.refl _ _) (.cells #[.int .i64 a2, .int .i64 b2, .int .i64 c2, .bool f2, .int .i64 g2, .slice y2 m2 k2] 24)); replace kr := kr.below bb; replace hb := next hb bb; clear x0 x1 x2 x3 x4; obtain ⟨x0, x1, x2, x3, x4⟩ := kr.five'; clear bb t1 _t)
    | (go_at_call 11; have _t := t2; go_must (refine (G2 _).mono ?_); rintro e w3 ⟨a3, b3, c3, f3, g3, y3, m3, k3, rfl, bb⟩; replace bb := next bb (lay (Below.refl _ _) (.cells #[.int .i64 a3, .int .i64 b3, .int .i64 c3, .bool f3, .int .i64 g3, .slice y3 m3 k3] 24)); replace kr := (kr.alloc _).below bb; replace hb := next (lay hb _) bb; clear x0 x1 x2 x3 x4; obtain ⟨x0, x1, x2, x3, x4⟩ := kr.five'; clear bb t2 _t)
    | (go_at_call 11; go_must (refine (G3 _).mono ?_); rintro e w4 ⟨a4, b4, c4, f4, g4, y4, m4, k4, rfl, bb⟩; replace bb := next bb (lay (Below.refl _ _) (.cells #[.int .i64 a4, .int .i64 b4, .int .i64 c4, .bool f4, .int .i64 g4, .slice y4 m4 k4] 24)); replace hb := next (lay hb _) bb; clear bb))
  go_ret
  exact ⟨ret_bool (by simp), hb⟩

theorem walk (data : ByteArray) (cut t : Int) (hs : data.size ≤ maxLen) (_ : (Lit.int .i64 cut).wf = true) (_ : (Lit.int .i64 t).wf = true) (w : World) :
    Calls Try.prog 6 #[.string data, .int .i64 cut, .int .i64 t] w fun e w' => e = .returned (.bool true) ∧ Below w.heap.size w w' := by
  by_cases hl : data.size ≤ 500
  · exact short data cut t hs hl w
  · exact long data cut t hs (by omega) w

theorem own : ownKnob Try.prog.godebug = none := by kernel_rfl

set_option maxRecDepth 100000 in
theorem lifted (os : Os) (started : os.Started) (H : Type) (enc : TypeId × Value → H) :
    ReturnsInHanded {} Try.checked os 6 .any (Rows.optCutsSpec.pre6 enc Try.prog Try.f6 Rows.optCutsRow.domain false) (Rows.optCutsSpec.post enc Try.prog Try.f6 false true false false) := by
  refine returnsInHanded_of_change (C := Try.checked) own started (by kernel_rfl) Try.func6
    (ChangeSpec.witness6 (enc := enc) (C := Try.checked) false ⟨#[], #[.string ByteArray.empty, .int .i64 0, .int .i64 0], []⟩ 8 (by kernel_rfl) (by kernel_rfl) (by kernel_rfl) (by kernel_rfl)) ?_
  intro W base args ds gs before hval0 hW _ _
  have hval : ∀ (j : Nat) t v, Try.f6.params[j]? = some t → args[j]? = some v → Value.okWide Try.prog W .any base t v := hval0
  have hW' := hW
  obtain ⟨p, q, hA0, hV, rfl, hfz, hnd⟩ := hW
  have hA : DataW.TrodAll enc Try.prog W 0 (fun _ => true) true Try.f6.params.toList args.toList ds p := hA0
  rw [Try.params6] at hA hval
  obtain ⟨v0, vs0, d0, ds0, p0, q0, hargs, rfl, rfl, h0, r0⟩ := trodAll_cons hA
  obtain ⟨v1, vs1, d1, ds1, p1, q1, rfl, rfl, rfl, h1, r1⟩ := trodAll_cons r0
  obtain ⟨v2, vs2, d2, ds2, p2, q2, rfl, rfl, rfl, h2, r2⟩ := trodAll_cons r1
  obtain ⟨rfl, rfl, rfl⟩ := trodAll_nil r2
  obtain rfl : args = #[v0, v1, v2] := by cases args; simp_all
  obtain ⟨rfl, rfl⟩ := trodVars_none hV
  obtain ⟨a0, rfl, rfl, rfl, w0⟩ := open_string Try.underlying9 (hval 0 9 v0 rfl rfl) h0
  obtain ⟨a1, rfl, rfl, rfl, w1⟩ := open_int Try.underlying3 (hval 1 3 v1 rfl rfl) h1
  obtain ⟨a2, rfl, rfl, rfl, w2⟩ := open_int Try.underlying3 (hval 2 3 v2 rfl rfl) h2
  clear hA0 hval0
  simp only [List.append_nil] at hW'
  refine (walk a0 a1 a2 w0 w1 w2 W ).mono fun e W' ⟨he, bel⟩ => ?_
  subst he
  exact ⟨_, rfl, _, _, _, [], [], [], hW', trodAll_mk1 (shut_bool Try.underlying4 _), (trodAll_cons_mk (shut_string Try.underlying9 w0) (trodAll_cons_mk (shut_int Try.underlying3 w1) (trodAll_cons_mk (shut_int Try.underlying3 w2) trodAll_mk0))), rfl, bel.frame _, fun h => by cases h⟩

/-- The statement. -/
theorem proved : Rows.OptCutsSaid :=
  OpenClaim.holds_of_wide 6 Try.f6 rfl rfl rfl rfl rfl rfl rfl ⟨rfl, rfl, rfl, rfl, rfl⟩ rfl rfl rfl rfl rfl (by kernel_rfl) Try.func6 (by kernel_rfl)
    (of_decide_eq_true (by kernel_rfl)) (by unfold Func.isWrapper; first | (rw [if_pos (by decide +kernel)]; kernel_rfl) | (rw [if_neg (by decide +kernel)]; exact ⟨rfl, rfl⟩))
    (fun os started H enc _ => lifted os started H enc)
#print axioms proved

end Go.Proofs.Ytehldafdjldpbaa.optCuts
