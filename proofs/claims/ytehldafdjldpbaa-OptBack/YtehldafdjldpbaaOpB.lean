/- What fits, field, join, split, mayFields and mayRecord of package opt give. -/
import Derived.Test.YtehldafdjldpbaaOpA
namespace Go.Proofs.Ytehldafdjldpbaa
open Go.RowKit

theorem wraps_u32 (n : Int) (h₀ : 0 ≤ n) (h₁ : n < 2 ^ 32) : IntKind.u32.wrap n = n := by rw [IntKind.wrap_u32]; omega
theorem u32_mask (x : Int) (j : Nat) (P m : Int) (hP : P = ((2 ^ j : Nat) : Int)) (hm : m = P - 1) (hj : j ≤ 16) (h : 0 ≤ x ∧ x < 4294967296) : bits .and .u32 x m = x % P := by
  have := bits_mask .u32 32 (by decide) wraps_u32 j (by omega) x h.1 (by omega)
  rw [hm, hP, Int.natCast_pow]
  exact this

theorem field_as (W r p q : Int) (w : World) (hW : 0 ≤ W ∧ W < 4294967296) (hp : (p = 24 ∧ q = 8 ∧ W / 16777216 % 256 = r) ∨ (p = 16 ∧ q = 8 ∧ W / 65536 % 256 = r) ∨ (p = 15 ∧ q = 1 ∧ W / 32768 % 2 = r) ∨ (p = 0 ∧ q = 15 ∧ W / 1 % 32768 = r) ∨ (p = 16 ∧ q = 16 ∧ W / 65536 % 65536 = r) ∨ (p = 0 ∧ q = 16 ∧ W / 1 % 65536 = r)) :
    Calls Try.prog 37 #[.int .u32 W, .int .u64 p, .int .u64 q] w fun e w' => e = .returned (.int .i64 r) ∧ w' = w := by
  rcases hp with ⟨rfl, rfl, hr⟩ | ⟨rfl, rfl, hr⟩ | ⟨rfl, rfl, hr⟩ | ⟨rfl, rfl, hr⟩ | ⟨rfl, rfl, hr⟩ | ⟨rfl, rfl, hr⟩
  · have hand : bits .and .u32 (W / 16777216) 255 = r := by rw [u32_mask (W / 16777216) 8 256 255 rfl rfl (by decide) (by omega)]; exact hr
    have h1 : 0 ≤ r ∧ r < 256 := by omega
    clear hr
    go_enter Try.func37, Try.ntmps37
    go_wp2
    go_ret
    exact ⟨rfl, rfl⟩
  · have hand : bits .and .u32 (W / 65536) 255 = r := by rw [u32_mask (W / 65536) 8 256 255 rfl rfl (by decide) (by omega)]; exact hr
    have h1 : 0 ≤ r ∧ r < 256 := by omega
    clear hr
    go_enter Try.func37, Try.ntmps37
    go_wp2
    go_ret
    exact ⟨rfl, rfl⟩
  · have hand : bits .and .u32 (W / 32768) 1 = r := by rw [u32_mask (W / 32768) 1 2 1 rfl rfl (by decide) (by omega)]; exact hr
    have h1 : 0 ≤ r ∧ r < 2 := by omega
    clear hr
    go_enter Try.func37, Try.ntmps37
    go_wp2
    go_ret
    exact ⟨rfl, rfl⟩
  · have hand : bits .and .u32 (W / 1) 32767 = r := by rw [u32_mask (W / 1) 15 32768 32767 rfl rfl (by decide) (by omega)]; exact hr
    have h1 : 0 ≤ r ∧ r < 32768 := by omega
    rw [Int.ediv_one] at hand
    clear hr
    go_enter Try.func37, Try.ntmps37
    go_wp2
    go_ret
    exact ⟨rfl, rfl⟩
  · have hand : bits .and .u32 (W / 65536) 65535 = r := by rw [u32_mask (W / 65536) 16 65536 65535 rfl rfl (by decide) (by omega)]; exact hr
    have h1 : 0 ≤ r ∧ r < 65536 := by omega
    clear hr
    go_enter Try.func37, Try.ntmps37
    go_wp2
    go_ret
    exact ⟨rfl, rfl⟩
  · have hand : bits .and .u32 (W / 1) 65535 = r := by rw [u32_mask (W / 1) 16 65536 65535 rfl rfl (by decide) (by omega)]; exact hr
    have h1 : 0 ≤ r ∧ r < 65536 := by omega
    rw [Int.ediv_one] at hand
    clear hr
    go_enter Try.func37, Try.ntmps37
    go_wp2
    go_ret
    exact ⟨rfl, rfl⟩

theorem fitsO_any (x p : Int) (n : Int) (w : World) (h : (n = 16 ∧ p = 65536) ∨ (n = 8 ∧ p = 256) ∨ (n = 15 ∧ p = 32768) ∨ (n = 32 ∧ p = 4294967296)) :
    Calls Try.prog 34 #[.int .i64 x, .int .u64 n] w fun e w' => e = .returned (.bool (fitO p x)) ∧ w' = w := by
  by_cases h0 : 0 ≤ x
  · by_cases h1 : x < p
    · rw [fitO_iff.2 ⟨h0, h1⟩]
      rcases h with ⟨rfl, rfl⟩ | ⟨rfl, rfl⟩ | ⟨rfl, rfl⟩ | ⟨rfl, rfl⟩
      all_goals
        go_enter Try.func34, Try.ntmps34
        go_wp2
        go_ret
        exact ⟨rfl, rfl⟩
    · rw [show fitO p x = false from by unfold fitO; simp; omega]
      have h2 : decide (x < p) = false := by simpa using h1
      clear h1
      rcases h with ⟨rfl, rfl⟩ | ⟨rfl, rfl⟩ | ⟨rfl, rfl⟩ | ⟨rfl, rfl⟩
      all_goals
        go_enter Try.func34, Try.ntmps34
        go_wp2
        go_ret
        exact ⟨rfl, rfl⟩
  · rw [show fitO p x = false from by unfold fitO; simp; omega]
    have h2 : decide (0 ≤ x) = false := by simpa using h0
    clear h0 h
    go_enter Try.func34, Try.ntmps34
    go_wp2
    go_ret
    exact ⟨rfl, rfl⟩
theorem fits_as (x p n : Int) (b : Bool) (w : World) (hb : fitO p x = b) (h : (n = 16 ∧ p = 65536) ∨ (n = 8 ∧ p = 256) ∨ (n = 15 ∧ p = 32768) ∨ (n = 32 ∧ p = 4294967296)) :
    Calls Try.prog 34 #[.int .i64 x, .int .u64 n] w fun e w' => e = .returned (.bool b) ∧ w' = w := hb ▸ fitsO_any x p n w h
theorem fit16 (x : Int) (b : Bool) (w : World) (hb : fitO 65536 x = b) : Calls Try.prog 34 #[.int .i64 x, .int .u64 16] w fun e w' => e = .returned (.bool b) ∧ w' = w := fits_as x _ _ b w hb (.inl ⟨rfl, rfl⟩)
theorem fit8 (x : Int) (b : Bool) (w : World) (hb : fitO 256 x = b) : Calls Try.prog 34 #[.int .i64 x, .int .u64 8] w fun e w' => e = .returned (.bool b) ∧ w' = w := fits_as x _ _ b w hb (.inr (.inl ⟨rfl, rfl⟩))
theorem fit15 (x : Int) (b : Bool) (w : World) (hb : fitO 32768 x = b) : Calls Try.prog 34 #[.int .i64 x, .int .u64 15] w fun e w' => e = .returned (.bool b) ∧ w' = w := fits_as x _ _ b w hb (.inr (.inr (.inl ⟨rfl, rfl⟩)))
theorem fit32 (x : Int) (b : Bool) (w : World) (hb : fitO 4294967296 x = b) : Calls Try.prog 34 #[.int .i64 x, .int .u64 32] w fun e w' => e = .returned (.bool b) ∧ w' = w := fits_as x _ _ b w hb (.inr (.inr (.inr ⟨rfl, rfl⟩)))

set_option maxRecDepth 20000 in
theorem mayFields_any (o : Ot) (v : Value) (w : World) :
    Calls Try.prog 21 #[.agg (optC o v)] w fun e w' => e = .returned (.bool (mayFl o)) ∧ Below w.heap.size w w' := by
  obtain ⟨s, e, vv, b, z, os⟩ := o
  obtain ⟨b1, h1⟩ : ∃ b, fitO 65536 s = b := ⟨_, rfl⟩
  obtain ⟨b2, h2⟩ : ∃ b, fitO 256 e = b := ⟨_, rfl⟩
  obtain ⟨b3, h3⟩ : ∃ b, fitO 256 vv = b := ⟨_, rfl⟩
  obtain ⟨b4, h4⟩ : ∃ b, fitO 32768 z = b := ⟨_, rfl⟩
  have HR : Hid (mayFl ⟨s, e, vv, b, z, os⟩ = (b1 && b2 && b3 && b4)) := by unfold Hid mayFl; rw [h1, h2, h3, h4]
  have k1 := fun u => fit16 s b1 u h1
  have k2 := fun u => fit8 e b2 u h2
  have k3 := fun u => fit8 vv b3 u h3
  have k4 := fun u => fit15 z b4 u h4
  have hb : Below w.heap.size w (w.alloc (.cells (optC ⟨s, e, vv, b, z, os⟩ v) 24)) := lay (Below.refl _ _) _
  unfold optC at hb ⊢
  simp only at hb ⊢
  clear h1 h2 h3 h4
  have t1 : True := trivial
  have t2 : True := trivial
  have t3 : True := trivial
  cases b1 with
  | false =>
    go_enter Try.func21, Try.ntmps21
    go_wp2_with (go_at_call 34; go_must (refine (k1 _).mono ?_); rintro e w' ⟨rfl, hw⟩; obtain rfl := hw.symm)
    go_ret
    exact ⟨ret_bool (by rw [HR.out]; rfl), hb⟩
  | true =>
    cases b2 with
    | false =>
      go_enter Try.func21, Try.ntmps21
      go_wp2_with (first
        | (go_at_call 34; have _t := t1; go_must (refine (k1 _).mono ?_); rintro e w' ⟨rfl, hw⟩; obtain rfl := hw.symm; clear t1 _t)
        | (go_at_call 34; go_must (refine (k2 _).mono ?_); rintro e w' ⟨rfl, hw⟩; obtain rfl := hw.symm))
      go_ret
      exact ⟨ret_bool (by rw [HR.out]; rfl), hb⟩
    | true =>
      cases b3 with
      | false =>
        go_enter Try.func21, Try.ntmps21
        go_wp2_with (first
          | (go_at_call 34; have _t := t1; go_must (refine (k1 _).mono ?_); rintro e w' ⟨rfl, hw⟩; obtain rfl := hw.symm; clear t1 _t)
          | (go_at_call 34; have _t := t2; go_must (refine (k2 _).mono ?_); rintro e w' ⟨rfl, hw⟩; obtain rfl := hw.symm; clear t2 _t)
          | (go_at_call 34; go_must (refine (k3 _).mono ?_); rintro e w' ⟨rfl, hw⟩; obtain rfl := hw.symm))
        go_ret
        exact ⟨ret_bool (by rw [HR.out]; rfl), hb⟩
      | true =>
        go_enter Try.func21, Try.ntmps21
        go_wp2_with (first
          | (go_at_call 34; have _t := t1; go_must (refine (k1 _).mono ?_); rintro e w' ⟨rfl, hw⟩; obtain rfl := hw.symm; clear t1 _t)
          | (go_at_call 34; have _t := t2; go_must (refine (k2 _).mono ?_); rintro e w' ⟨rfl, hw⟩; obtain rfl := hw.symm; clear t2 _t)
          | (go_at_call 34; have _t := t3; go_must (refine (k3 _).mono ?_); rintro e w' ⟨rfl, hw⟩; obtain rfl := hw.symm; clear t3 _t)
          | (go_at_call 34; go_must (refine (k4 _).mono ?_); rintro e w' ⟨rfl, hw⟩; obtain rfl := hw.symm))
        go_ret
        exact ⟨ret_bool (by rw [HR.out]; simp), hb⟩

theorem root_as (n : ByteArray) : (n.toList == [0]) = decide (n = rootB) := by
  rw [ByteArray.toList_eq]
  rw [Bool.eq_iff_iff]
  simp only [beq_iff_eq, decide_eq_true_eq]
  constructor
  · intro h
    apply ByteArray.ext
    apply Array.toList_inj.1
    rw [h]
    rfl
  · intro h
    rw [h]
    rfl

set_option maxRecDepth 20000 in
theorem mayRecordO_any (r : Rc) (w : World) (hd : r.d.size ≤ maxLen) :
    Calls Try.prog 28 #[.agg (rrC r)] w fun e w' => e = .returned (.bool (mayRc r)) ∧ Below w.heap.size w w' := by
  obtain ⟨n, t, c, l, d⟩ := r
  simp only at hd
  obtain ⟨b1, h1⟩ : ∃ b, (n.toList == [0]) = b := ⟨_, rfl⟩
  obtain ⟨b2, h2⟩ : ∃ b, (t == 41) = b := ⟨_, rfl⟩
  obtain ⟨b3, h3⟩ : ∃ b, fitO 65536 c = b := ⟨_, rfl⟩
  obtain ⟨b4, h4⟩ : ∃ b, fitO 4294967296 l = b := ⟨_, rfl⟩
  have HR : Hid (mayRc ⟨n, t, c, l, d⟩ = (b1 && b2 && b3 && b4 && decide (d.size ≤ 65535))) := by unfold Hid mayRc; rw [← root_as, h1, h2, h3, h4]
  have k3 := fun u => fit16 c b3 u h3
  have k4 := fun u => fit32 l b4 u h4
  have hb : Below w.heap.size w (w.alloc (.cells (rrC ⟨n, t, c, l, d⟩) 26)) := lay (Below.refl _ _) _
  unfold rrC at hb ⊢
  simp only at hb ⊢
  unfold maxLen at hd
  clear h3 h4
  have t1 : True := trivial
  cases b1 with
  | false =>
    go_enter Try.func28, Try.ntmps28
    go_wp2
    go_ret
    exact ⟨ret_bool (by rw [HR.out]; rfl), hb⟩
  | true =>
    cases b2 with
    | false =>
      go_enter Try.func28, Try.ntmps28
      go_wp2
      go_ret
      exact ⟨ret_bool (by rw [HR.out]; rfl), hb⟩
    | true =>
      cases b3 with
      | false =>
        go_enter Try.func28, Try.ntmps28
        go_wp2_with (go_at_call 34; go_must (refine (k3 _).mono ?_); rintro e w' ⟨rfl, hw⟩; obtain rfl := hw.symm)
        go_ret
        exact ⟨ret_bool (by rw [HR.out]; rfl), hb⟩
      | true =>
        cases b4 with
        | false =>
          go_enter Try.func28, Try.ntmps28
          go_wp2_with (first
            | (go_at_call 34; have _t := t1; go_must (refine (k3 _).mono ?_); rintro e w' ⟨rfl, hw⟩; obtain rfl := hw.symm; clear t1 _t)
            | (go_at_call 34; go_must (refine (k4 _).mono ?_); rintro e w' ⟨rfl, hw⟩; obtain rfl := hw.symm))
          go_ret
          exact ⟨ret_bool (by rw [HR.out]; rfl), hb⟩
        | true =>
          obtain ⟨b5, h5⟩ : ∃ b, decide ((d.size : Int) ≤ 65535) = b := ⟨_, rfl⟩
          have H5 : Hid (decide (d.size ≤ 65535) = b5) := by unfold Hid; rw [← h5, Bool.eq_iff_iff]; simp; omega
          go_enter Try.func28, Try.ntmps28
          go_wp2_with (first
            | (go_at_call 34; have _t := t1; go_must (refine (k3 _).mono ?_); rintro e w' ⟨rfl, hw⟩; obtain rfl := hw.symm; clear t1 _t)
            | (go_at_call 34; go_must (refine (k4 _).mono ?_); rintro e w' ⟨rfl, hw⟩; obtain rfl := hw.symm))
          go_ret
          exact ⟨ret_bool (by rw [HR.out, H5.out]; simp), hb⟩

theorem or_bits (a b : Nat) (j k : Nat) (hk : a = k * 2 ^ j) (hb : b < 2 ^ j) (h : a + b < 2 ^ 32) : bits .or .u32 (a : Int) (b : Int) = ((a + b : Nat) : Int) := by
  subst hk
  rw [u32_or_nat _ _ (by omega) (by omega), Nat.mul_comm, ← Nat.two_pow_add_eq_or_of_lt hb]

set_option maxRecDepth 20000 in
theorem join_any (o : Ot) (v : Value) (w : World) (h : mayFl o = true) :
    Calls Try.prog 23 #[.agg (optC o v)] w fun e w' => e = .returned (.int .u32 (ttlO o)) ∧ Below w.heap.size w w' := by
  obtain ⟨s, e, vv, b, z, os⟩ := o
  unfold mayFl at h
  simp only [Bool.and_eq_true] at h
  obtain ⟨⟨⟨-, h2⟩, h3⟩, h4⟩ := h
  replace h2 := fitO_iff.1 h2
  replace h3 := fitO_iff.1 h3
  replace h4 := fitO_iff.1 h4
  have hb : Below w.heap.size w (w.alloc (.cells (optC ⟨s, e, vv, b, z, os⟩ v) 24)) := lay (Below.refl _ _) _
  unfold optC at hb ⊢
  simp only at hb ⊢
  obtain ⟨E, rfl⟩ : ∃ E : Nat, e = (E : Int) := ⟨e.toNat, by omega⟩
  obtain ⟨V, rfl⟩ : ∃ V : Nat, vv = (V : Int) := ⟨vv.toNat, by omega⟩
  obtain ⟨Z, rfl⟩ : ∃ Z : Nat, z = (Z : Int) := ⟨z.toNat, by omega⟩
  obtain ⟨X1, hX1⟩ : ∃ X : Nat, X = E * 16777216 + V * 65536 := ⟨_, rfl⟩
  obtain ⟨X2, hX2⟩ : ∃ X : Nat, X = X1 + Z := ⟨_, rfl⟩
  obtain ⟨X3, hX3⟩ : ∃ X : Nat, X = X2 + 32768 := ⟨_, rfl⟩
  have p15 : (2 : Nat) ^ 15 = 32768 := by decide
  have e0 : X1 = (E * 512 + V * 2) * 32768 := by rw [hX1]; simp [Nat.add_mul, Nat.mul_assoc]
  have e1 : Z < 32768 := by omega
  have e2 : X1 + Z < 2 ^ 32 := by omega
  have e3 : X2 = 2 ^ 16 * (E * 256 + V) + Z := by rw [hX2, hX1, Nat.mul_add, show 2 ^ 16 * (E * 256) = E * 16777216 from by rw [Nat.mul_comm, Nat.mul_assoc], show 2 ^ 16 * V = V * 65536 from by rw [Nat.mul_comm]]
  have e4 : 2 ^ 16 * (E * 256 + V) + (2 ^ 15 * 1 + Z) = X3 := by rw [hX3, e3, show 2 ^ 15 * 1 = 32768 from rfl]; omega
  have l1 : X1 < 4294967296 := by omega
  have l2 : X2 < 4294967296 := by omega
  have l3 : X3 < 4294967296 := by omega
  have HT : Hid (ttlO ⟨s, E, V, true, Z, os⟩ = (X3 : Int)) := by unfold Hid ttlO; simp; omega
  have HF : Hid (ttlO ⟨s, E, V, false, Z, os⟩ = (X2 : Int)) := by unfold Hid ttlO; simp; omega
  have o1 : bits .or .u32 ((E : Int) * 16777216) ((V : Int) * 65536) = (X1 : Int) := by
    have := or_bits (E * 16777216) (V * 65536) 24 E (by omega) (by omega) (by omega)
    rw [← hX1, show ((E * 16777216 : Nat) : Int) = (E : Int) * 16777216 from by omega, show ((V * 65536 : Nat) : Int) = (V : Int) * 65536 from by omega] at this
    exact this
  have o2 : bits .or .u32 (X1 : Int) (Z : Int) = (X2 : Int) := by
    rw [← p15] at e0 e1
    rw [hX2]
    exact or_bits _ Z 15 (E * 512 + V * 2) e0 e1 e2
  have o3 : bits .or .u32 (X2 : Int) 32768 = (X3 : Int) := by
    have f1 := u32_or_nat X2 32768 l2 (by decide)
    have f2 := Nat.two_pow_add_eq_or_of_lt (i := 16) (b := Z) (Nat.lt_of_lt_of_le e1 (by decide)) (E * 256 + V)
    have f3 := Nat.two_pow_add_eq_or_of_lt (i := 15) (b := Z) e1 1
    have f4 := Nat.two_pow_add_eq_or_of_lt (i := 16) (b := 2 ^ 15 * 1 + Z) (by have := e1; clear o1 o2 f1; omega) (E * 256 + V)
    have e6 : X2 ||| 32768 = X3 := by
      rw [e3, f2, Nat.or_assoc, Nat.or_comm Z, show 32768 = 2 ^ 15 * 1 from rfl, ← f3, ← f4]
      exact e4
    rw [← e6]
    exact f1
  clear hX1 hX2 hX3 e0 e1 e2 e3 e4
  cases b with
  | true =>
    go_enter Try.func23, Try.ntmps23
    go_wp2
    go_ret
    exact ⟨by rw [HT.out]; rfl, hb⟩
  | false =>
    go_enter Try.func23, Try.ntmps23
    go_wp2
    go_ret
    exact ⟨by rw [HF.out]; rfl, hb⟩

/-- Six cells of an api.Opt. -/
theorem Blk.six {w : World} {g : Nat} {o : Ot} {v : Value} {t : TypeId} (k : Blk w g (optC o v) t) :
    w.cell? ⟨g, 0, none⟩ = some (.int .i64 o.s) ∧ w.cell? ⟨g, 1, none⟩ = some (.int .i64 o.e) ∧ w.cell? ⟨g, 2, none⟩ = some (.int .i64 o.v) ∧ w.cell? ⟨g, 3, none⟩ = some (.bool o.b) ∧ w.cell? ⟨g, 4, none⟩ = some (.int .i64 o.z) ∧ w.cell? ⟨g, 5, none⟩ = some v :=
  ⟨k.cell 0, k.cell 1, k.cell 2, k.cell 3, k.cell 4, k.cell 5⟩
theorem Blk.open6 {w : World} {g : Nat} {C : Array Value} {t : TypeId} (k : Blk w g C t) :
    w.frozen? ⟨g, 0, none⟩ = false ∧ w.frozen? ⟨g, 1, none⟩ = false ∧ w.frozen? ⟨g, 2, none⟩ = false ∧ w.frozen? ⟨g, 3, none⟩ = false ∧ w.frozen? ⟨g, 4, none⟩ = false ∧ w.frozen? ⟨g, 5, none⟩ = false :=
  ⟨k.frozen 0, k.frozen 1, k.frozen 2, k.frozen 3, k.frozen 4, k.frozen 5⟩
/-- Six cells are stored. -/
def set6 (w : World) (g : Nat) (o : Ot) (v : Value) : World :=
  (((((w.setCell ⟨g, 0, none⟩ (.int .i64 o.s)).setCell ⟨g, 1, none⟩ (.int .i64 o.e)).setCell ⟨g, 2, none⟩ (.int .i64 o.v)).setCell ⟨g, 3, none⟩ (.bool o.b)).setCell ⟨g, 4, none⟩ (.int .i64 o.z)).setCell ⟨g, 5, none⟩ v
theorem set6_blk {w : World} {g : Nat} {o o' : Ot} {v v' : Value} {t : TypeId} (k : Blk w g (optC o' v') t) : Blk (set6 w g o v) g (optC o v) t := by
  have k0 : Blk _ g (optC ⟨o.s, o'.e, o'.v, o'.b, o'.z, []⟩ v') t := k.set 0 (.int .i64 o.s)
  have k1 : Blk _ g (optC ⟨o.s, o.e, o'.v, o'.b, o'.z, []⟩ v') t := k0.set 1 (.int .i64 o.e)
  have k2 : Blk _ g (optC ⟨o.s, o.e, o.v, o'.b, o'.z, []⟩ v') t := k1.set 2 (.int .i64 o.v)
  have k3 : Blk _ g (optC ⟨o.s, o.e, o.v, o.b, o'.z, []⟩ v') t := k2.set 3 (.bool o.b)
  have k4 : Blk _ g (optC ⟨o.s, o.e, o.v, o.b, o.z, []⟩ v') t := k3.set 4 (.int .i64 o.z)
  have k5 : Blk _ g (optC o v) t := k4.set 5 v
  exact k5
theorem set6_turn (w : World) (g : Nat) (o : Ot) (v : Value) : Turn (fun k => k = g) w (set6 w g o v) := by
  have T : ∀ (u : World) (i : Nat) (v : Value), Turn (fun k => k = g) u (u.setCell ⟨g, i, none⟩ v) := fun u i v => Turn.of_set (S := fun k => k = g) u (p := ⟨g, i, none⟩) rfl v
  unfold set6
  exact (((((T _ _ _).same (T _ _ _)).same (T _ _ _)).same (T _ _ _)).same (T _ _ _)).same (T _ _ _)
theorem set6_below {B : Nat} {w a : World} (h : Below B w a) {g : Nat} (hg : B ≤ g) (ha : B ≤ a.heap.size) (o : Ot) (v : Value) : Below B w (set6 a g o v) :=
  Turn.below h (set6_turn a g o v) ha (fun i e => by subst e; exact hg)
theorem Blk.six' {w : World} {g : Nat} {a b c d e f : Value} {t : TypeId} (k : Blk w g #[a, b, c, d, e, f] t) :
    w.cell? ⟨g, 0, none⟩ = some a ∧ w.cell? ⟨g, 1, none⟩ = some b ∧ w.cell? ⟨g, 2, none⟩ = some c ∧ w.cell? ⟨g, 3, none⟩ = some d ∧ w.cell? ⟨g, 4, none⟩ = some e ∧ w.cell? ⟨g, 5, none⟩ = some f :=
  ⟨k.cell 0, k.cell 1, k.cell 2, k.cell 3, k.cell 4, k.cell 5⟩
theorem Blk.five' {w : World} {g : Nat} {a b c d e : Value} {t : TypeId} (k : Blk w g #[a, b, c, d, e] t) :
    w.cell? ⟨g, 0, none⟩ = some a ∧ w.cell? ⟨g, 1, none⟩ = some b ∧ w.cell? ⟨g, 2, none⟩ = some c ∧ w.cell? ⟨g, 3, none⟩ = some d ∧ w.cell? ⟨g, 4, none⟩ = some e :=
  ⟨k.cell 0, k.cell 1, k.cell 2, k.cell 3, k.cell 4⟩
/-- Five cells of an api.Rr. -/
theorem Blk.five {w : World} {g : Nat} {r : Rc} {t : TypeId} (k : Blk w g (rrC r) t) :
    w.cell? ⟨g, 0, none⟩ = some (.string r.n) ∧ w.cell? ⟨g, 1, none⟩ = some (.int .i64 r.t) ∧ w.cell? ⟨g, 2, none⟩ = some (.int .i64 r.c) ∧ w.cell? ⟨g, 3, none⟩ = some (.int .i64 r.l) ∧ w.cell? ⟨g, 4, none⟩ = some (.string r.d) :=
  ⟨k.cell 0, k.cell 1, k.cell 2, k.cell 3, k.cell 4⟩
theorem Blk.open5 {w : World} {g : Nat} {C : Array Value} {t : TypeId} (k : Blk w g C t) :
    w.frozen? ⟨g, 0, none⟩ = false ∧ w.frozen? ⟨g, 1, none⟩ = false ∧ w.frozen? ⟨g, 2, none⟩ = false ∧ w.frozen? ⟨g, 3, none⟩ = false ∧ w.frozen? ⟨g, 4, none⟩ = false :=
  ⟨k.frozen 0, k.frozen 1, k.frozen 2, k.frozen 3, k.frozen 4⟩
def set5 (w : World) (g : Nat) (r : Rc) : World :=
  ((((w.setCell ⟨g, 0, none⟩ (.string r.n)).setCell ⟨g, 1, none⟩ (.int .i64 r.t)).setCell ⟨g, 2, none⟩ (.int .i64 r.c)).setCell ⟨g, 3, none⟩ (.int .i64 r.l)).setCell ⟨g, 4, none⟩ (.string r.d)
theorem set5_blk {w : World} {g : Nat} {r r' : Rc} {t : TypeId} (k : Blk w g (rrC r') t) : Blk (set5 w g r) g (rrC r) t := by
  have k0 : Blk _ g (rrC ⟨r.n, r'.t, r'.c, r'.l, r'.d⟩) t := k.set 0 (.string r.n)
  have k1 : Blk _ g (rrC ⟨r.n, r.t, r'.c, r'.l, r'.d⟩) t := k0.set 1 (.int .i64 r.t)
  have k2 : Blk _ g (rrC ⟨r.n, r.t, r.c, r'.l, r'.d⟩) t := k1.set 2 (.int .i64 r.c)
  have k3 : Blk _ g (rrC ⟨r.n, r.t, r.c, r.l, r'.d⟩) t := k2.set 3 (.int .i64 r.l)
  have k4 : Blk _ g (rrC r) t := k3.set 4 (.string r.d)
  exact k4
theorem set5_turn (w : World) (g : Nat) (r : Rc) : Turn (fun k => k = g) w (set5 w g r) := by
  have T : ∀ (u : World) (i : Nat) (v : Value), Turn (fun k => k = g) u (u.setCell ⟨g, i, none⟩ v) := fun u i v => Turn.of_set (S := fun k => k = g) u (p := ⟨g, i, none⟩) rfl v
  unfold set5
  exact ((((T _ _ _).same (T _ _ _)).same (T _ _ _)).same (T _ _ _)).same (T _ _ _)
theorem set5_below {B : Nat} {w a : World} (h : Below B w a) {g : Nat} (hg : B ≤ g) (ha : B ≤ a.heap.size) (r : Rc) : Below B w (set5 a g r) :=
  Turn.below h (set5_turn a g r) ha (fun i e => by subst e; exact hg)

end Go.Proofs.Ytehldafdjldpbaa
