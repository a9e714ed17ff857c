/- The document's Table: New, Add, All. -/
import Derived.Test.YtbldoplemfjcjaaOuQ
import Derived.Deep.DeepCutAuto
namespace Go.Proofs.Ytbldoplemfjcjaa
open Go.RowKit
open Pl
namespace Ou

def wideA (a : Int) : Bool := decide (0 ≤ a) && decide (a ≤ 4294967295)
theorem wide_as (a : Int) (w : World) (b : Bool) (hb : wideA a = b) :
    Calls Try.prog 28 #[.int .i64 a] w fun e w' => e = .returned (.bool b) ∧ w' = w := by
  subst hb
  unfold wideA
  by_cases h : 0 ≤ a
  · have d0 : decide (0 ≤ a) = true := by simpa using h
    go_enter Try.func28, Try.ntmps28
    go_wp2
    go_ret
    exact ⟨by rw [d0]; rfl, rfl⟩
  · have d0 : decide (0 ≤ a) = false := by simpa using h
    go_enter Try.func28, Try.ntmps28
    go_wp2
    go_ret
    exact ⟨rfl, rfl⟩
/-- The document's Table in memory. -/
structure RS (B : Nat) (w : World) (r most : Nat) (v : Value) (D : List Ak) : Prop where
  blk : Blk w r #[.int .i64 most, v] 63
  own : w.ownsRow B 35 8 v D.length (aF D)
  new : B ≤ r
  m1 : 1 ≤ most
  m2 : most ≤ 16
  len : D.length ≤ most
  ok : ∀ x ∈ D, OkA x
theorem RS.sep {B : Nat} {w : World} {r most : Nat} {v : Value} {D : List Ak} (h : RS B w r most v D) : v.ownBlock ≠ some r := own_apartT h.own h.blk (by decide)
theorem RS.below {B : Nat} {w w' : World} {r most : Nat} {v : Value} {D : List Ak} (h : RS B w r most v D) (hb : Below w.heap.size w w') : RS B w' r most v D := ⟨h.blk.below hb, own_past h.own hb, h.new, h.m1, h.m2, h.len, h.ok⟩
theorem RS.kp {B : Nat} {w w' : World} {r most : Nat} {v : Value} {D : List Ak} (h : RS B w r most v D) (hk : Kp w w') : RS B w' r most v D := ⟨hk.blk _ _ _ (by decide) (by decide) h.blk, hk.row _ _ _ _ _ _ (by decide) (by decide) h.own, h.new, h.m1, h.m2, h.len, h.ok⟩
/-- What an operation of it writes. -/
def rft (r : Nat) (v : Value) (k : Nat) : Prop := k = r ∨ v.ownBlock = some k
theorem rnew_no (most : Int) (w : World) (h : most < 1 ∨ 16 < most) :
    Calls Try.prog 9 #[.int .i64 most] w fun e w' => e = .returned (.tuple #[.pointer none, .int .i64 1900]) ∧ w' = w := by
  by_cases h1 : most < 1
  · have d1 : decide (most < 1) = true := by simpa using h1
    go_enter Try.func9, Try.ntmps9
    go_wp2
    go_ret2
    exact ⟨rfl, rfl⟩
  · have d1 : decide (most < 1) = false := by simpa using h1
    have d2 : decide (16 < most) = true := by simp; omega
    go_enter Try.func9, Try.ntmps9
    go_wp2
    go_ret2
    exact ⟨rfl, rfl⟩
theorem rnew_yes (B most : Nat) (w : World) (hB : B ≤ w.heap.size) (h1 : 1 ≤ most) (h2 : most ≤ 16) :
    Calls Try.prog 9 #[.int .i64 (most : Int)] w fun e w' => ∃ r, e = .returned (.tuple #[.pointer (some ⟨r, 0, none⟩), .int .i64 0]) ∧ RS B w' r most (.slice none 0 0) [] ∧ Below w.heap.size w w' := by
  have d1 : decide ((most : Int) < 1) = false := by simp; omega
  have d2 : decide (16 < (most : Int)) = false := by simp; omega
  have HB : Hid (Below w.heap.size w (w.alloc (.cells #[.int .i64 (most : Int), .slice none 0 0] 63))) := lay (Below.refl _ _) _
  have HS : Hid (RS B (w.alloc (.cells #[.int .i64 (most : Int), .slice none 0 0] 63)) w.heap.size most (.slice none 0 0) []) := ⟨Blk.new _ _ _, World.ownsRow_nil _ _ _ _, hB, h1, h2, Nat.zero_le _, by simp⟩
  go_enter Try.func9, Try.ntmps9
  go_wp2
  go_ret2
  exact ⟨_, rfl, HS.out, HB.out⟩

set_option maxRecDepth 20000 in
set_option maxHeartbeats 2000000 in
theorem radd_wrong (r : Nat) (j i a : Int) (c g n : ByteArray) (t u : Int) (w : World) (hn : n.size ≤ maxLen) (hb : wrongA ⟨j, i, a, c, g, n, t, u⟩ = true) :
    Calls Try.prog 13 #[.pointer (some ⟨r, 0, none⟩), .agg #[.int .i64 j, .int .i64 i, .int .i64 a, .string c, .string g, .string n, .int .i64 t, .int .i64 u]] w fun e w' => e = .returned (.int .i64 1900) ∧ Below w.heap.size w w' := by
  have HB : Hid ((decide (i < 0) || decide (65535 < i) || decide (a < 0) || decide (4294967295 < a) || !isName n.data.toList || decide (t < 1) || decide (65535 < t)) = true) := hb
  have HL : Hid (Below w.heap.size w (w.alloc (.cells #[.int .i64 j, .int .i64 i, .int .i64 a, .string c, .string g, .string n, .int .i64 t, .int .i64 u] 35))) := lay (Below.refl _ _) _
  have HK0 : Hid (Blk (w.alloc (.cells #[.int .i64 j, .int .i64 i, .int .i64 a, .string c, .string g, .string n, .int .i64 t, .int .i64 u] 35)) w.heap.size #[.int .i64 j, .int .i64 i, .int .i64 a, .string c, .string g, .string n, .int .i64 t, .int .i64 u] 35) := Blk.new _ _ _
  clear hb
  by_cases c0 : i < 0
  · have d0 : decide (i < 0) = true := by simpa using c0
    go_enter Try.func13, Try.ntmps13
    go_wp2
    go_ret
    exact ⟨rfl, HL.out⟩
  · have d0 : decide (i < 0) = false := by simpa using c0
    by_cases c1 : 65535 < i
    · have d1 : decide (65535 < i) = true := by simpa using c1
      go_enter Try.func13, Try.ntmps13
      go_wp2
      go_ret
      exact ⟨rfl, HL.out⟩
    · have d1 : decide (65535 < i) = false := by simpa using c1
      cases hwd : wideA a with
      | false =>
        go_enter Try.func13, Try.ntmps13
        go_wp2_with (first
          | (go_at_call 28; go_must (refine (wide_as a _ false hwd).mono ?_); rintro e w' ⟨rfl, hw⟩; obtain rfl := hw.symm))
        go_ret
        exact ⟨rfl, HL.out⟩
      | true =>
        cases h0 : isName n.data.toList with
        | false =>
          go_enter Try.func13, Try.ntmps13
          go_wp2_with (first
            | (go_at_call 28; go_must (refine (wide_as a _ true hwd).mono ?_); rintro e w' ⟨rfl, hw⟩; obtain rfl := hw.symm)
            | (go_at_call 29; go_must (refine (refMay_as n false _ hn h0).mono ?_); rintro e w2 ⟨rfl, b2⟩; have HB2 := next HL.out b2; have y6 := (HK0.out.below b2).cell 6; simp only [List.getElem?_toArray, List.getElem?_cons_succ, List.getElem?_cons_zero] at y6))
          go_ret
          exact ⟨rfl, HB2⟩
        | true =>
          by_cases c4 : t < 1
          · have d4 : decide (t < 1) = true := by simpa using c4
            go_enter Try.func13, Try.ntmps13
            go_wp2_with (first
              | (go_at_call 28; go_must (refine (wide_as a _ true hwd).mono ?_); rintro e w' ⟨rfl, hw⟩; obtain rfl := hw.symm)
              | (go_at_call 29; go_must (refine (refMay_as n true _ hn h0).mono ?_); rintro e w2 ⟨rfl, b2⟩; have HB2 := next HL.out b2; have y6 := (HK0.out.below b2).cell 6; simp only [List.getElem?_toArray, List.getElem?_cons_succ, List.getElem?_cons_zero] at y6))
            go_ret
            exact ⟨rfl, HB2⟩
          · have d4 : decide (t < 1) = false := by simpa using c4
            by_cases c5 : 65535 < t
            · have d5 : decide (65535 < t) = true := by simpa using c5
              go_enter Try.func13, Try.ntmps13
              go_wp2_with (first
                | (go_at_call 28; go_must (refine (wide_as a _ true hwd).mono ?_); rintro e w' ⟨rfl, hw⟩; obtain rfl := hw.symm)
                | (go_at_call 29; go_must (refine (refMay_as n true _ hn h0).mono ?_); rintro e w2 ⟨rfl, b2⟩; have HB2 := next HL.out b2; have y6 := (HK0.out.below b2).cell 6; simp only [List.getElem?_toArray, List.getElem?_cons_succ, List.getElem?_cons_zero] at y6))
              go_ret
              exact ⟨rfl, HB2⟩
            · have d5 : decide (65535 < t) = false := by simpa using c5
              exfalso
              have := HB.out
              unfold wideA at hwd
              simp only [Bool.and_eq_true, decide_eq_true_eq] at hwd
              rw [d0, d1, h0, d4, d5, show decide (a < 0) = false from by simp; omega, show decide (4294967295 < a) = false from by simp; omega] at this
              simp at this

set_option maxRecDepth 20000 in
set_option maxHeartbeats 2000000 in
theorem radd_full {B : Nat} {w : World} {r most : Nat} {v : Value} {D : List Ak} (h : RS B w r most v D) (j i a : Int) (c g n : ByteArray) (t u : Int) (hn : n.size ≤ maxLen) (hb : wrongA ⟨j, i, a, c, g, n, t, u⟩ = false) (hfull : D.length = most) :
    Calls Try.prog 13 #[.pointer (some ⟨r, 0, none⟩), .agg #[.int .i64 j, .int .i64 i, .int .i64 a, .string c, .string g, .string n, .int .i64 t, .int .i64 u]] w fun e w' => e = .returned (.int .i64 1901) ∧ Below w.heap.size w w' := by
  obtain ⟨hi0, hi1, ha0, ha1, h0, ht0, ht1⟩ := wrong_iff.1 hb
  simp only at hi0 hi1 ha0 ha1 h0 ht0 ht1
  have hwd : wideA a = true := by unfold wideA; simp; omega
  have d0 : decide (i < 0) = false := by simp; omega
  have d1 : decide (65535 < i) = false := by simp; omega
  have d4 : decide (t < 1) = false := by simp; omega
  have d5 : decide (65535 < t) = false := by simp; omega
  have b0 : Below w.heap.size w (w.alloc (.cells #[.int .i64 j, .int .i64 i, .int .i64 a, .string c, .string g, .string n, .int .i64 t, .int .i64 u] 35)) := lay (Below.refl _ _) _
  have k0 := Blk.new w #[.int .i64 j, .int .i64 i, .int .i64 a, .string c, .string g, .string n, .int .i64 t, .int .i64 u] 35
  obtain ⟨y, cp, rfl⟩ := row_shape h.own
  have he : ((D.length : Int) == (most : Int)) = true := by simp; omega
  go_enter Try.func13, Try.ntmps13
  go_wp2_with (first
    | (go_at_call 28; go_must (refine (wide_as a _ true hwd).mono ?_); rintro e w' ⟨rfl, hw⟩; obtain rfl := hw.symm)
    | (go_at_call 29; go_must (refine (refMay_as n true _ hn h0).mono ?_); rintro e w2 ⟨rfl, b2⟩; have B2 := next b0 b2; have K2 := k0.below b2; have y6 := K2.cell 6; simp only [List.getElem?_toArray, List.getElem?_cons_succ, List.getElem?_cons_zero] at y6; have H2 := h.below B2; clear b0 k0 b2))
  have H3 := H2.below (Below.refl _ _).drew
  have x0 : w2.drew.cell? ⟨r, 0, none⟩ = some (.int .i64 (most : Int)) := H3.blk.cell 0
  have x1 : w2.drew.cell? ⟨r, 1, none⟩ = some (.slice y D.length cp) := H3.blk.cell 1
  have HB2 : Hid (Below w.heap.size w w2.drew) := B2.drew
  clear h H2 H3 K2 B2
  go_region_held_law (fun q => q.cell? ⟨r, 0, none⟩ = some (.int .i64 (most : Int)) ∧ q.cell? ⟨r, 1, none⟩ = some (.slice y D.length cp)) (exact ⟨x0, x1⟩) (fail)
  go_wp2
  go_ret
  exact ⟨rfl, HB2.out⟩

set_option maxRecDepth 20000 in
set_option maxHeartbeats 4000000 in
theorem radd_yes {B : Nat} {w : World} {r most : Nat} {v : Value} {D : List Ak} (h : RS B w r most v D) (j i a : Int) (c g n : ByteArray) (t u : Int) (hn : n.size ≤ maxLen) (hb : wrongA ⟨j, i, a, c, g, n, t, u⟩ = false) (hroom : D.length < most) (hB : B ≤ w.heap.size) :
    Calls Try.prog 13 #[.pointer (some ⟨r, 0, none⟩), .agg #[.int .i64 j, .int .i64 i, .int .i64 a, .string c, .string g, .string n, .int .i64 t, .int .i64 u]] w fun e w' => e = .returned (.int .i64 0) ∧ ∃ v', RS B w' r most v' (D ++ [(⟨j, i, a, c, g, n, t, u⟩ : Ak)]) ∧ Turn (rft r v) w w' ∧ ∀ k, rft r v' k → rft r v k ∨ w.heap.size ≤ k := by
  obtain ⟨hi0, hi1, ha0, ha1, h0, ht0, ht1⟩ := wrong_iff.1 hb
  simp only at hi0 hi1 ha0 ha1 h0 ht0 ht1
  have hwd : wideA a = true := by unfold wideA; simp; omega
  have d0 : decide (i < 0) = false := by simp; omega
  have d1 : decide (65535 < i) = false := by simp; omega
  have d4 : decide (t < 1) = false := by simp; omega
  have d5 : decide (65535 < t) = false := by simp; omega
  obtain ⟨ia, hia, hz0, hz1, hz2⟩ := info_parts infoA
  have b0 : Below w.heap.size w (w.alloc (.cells #[.int .i64 j, .int .i64 i, .int .i64 a, .string c, .string g, .string n, .int .i64 t, .int .i64 u] 35)) := lay (Below.refl _ _) _
  have k0 := Blk.new w #[.int .i64 j, .int .i64 i, .int .i64 a, .string c, .string g, .string n, .int .i64 t, .int .i64 u] 35
  obtain ⟨y, cp, rfl⟩ := row_shape h.own
  have hm16 := h.m2
  obtain ⟨N, hN⟩ : ∃ N, N = D.length := ⟨_, rfl⟩
  have HN : Hid (N = D.length) := hN
  have he : ((N : Int) == (most : Int)) = false := by simp; omega
  have hN16 : N ≤ 16 := by omega
  rw [← hN] at h
  clear hN
  go_enter Try.func13, Try.ntmps13
  go_wp2_with (first
    | (go_at_call 28; go_must (refine (wide_as a _ true hwd).mono ?_); rintro e w' ⟨rfl, hw⟩; obtain rfl := hw.symm)
    | (go_at_call 29; go_must (refine (refMay_as n true _ hn h0).mono ?_); rintro e w2 ⟨rfl, b2⟩; have B2 := next b0 b2; have K2 := k0.below b2; have y6 := K2.cell 6; simp only [List.getElem?_toArray, List.getElem?_cons_succ, List.getElem?_cons_zero] at y6; have H2 := h.below B2; clear b0 k0 b2))
  have H3 := H2.below (Below.refl _ _).drew
  have x0 : w2.drew.cell? ⟨r, 0, none⟩ = some (.int .i64 (most : Int)) := H3.blk.cell 0
  have x1 : w2.drew.cell? ⟨r, 1, none⟩ = some (.slice y N cp) := H3.blk.cell 1
  go_region_held_law (fun q => q.cell? ⟨r, 0, none⟩ = some (.int .i64 (most : Int)) ∧ q.cell? ⟨r, 1, none⟩ = some (.slice y N cp)) (exact ⟨x0, x1⟩) (fail)
  go_wp2
  clear x0 x1 H3
  have W1B : Below w2.heap.size w2 ((w2.alloc (.cells #[.int .i64 j, .int .i64 i, .int .i64 a, .string c, .string g, .string n, .int .i64 t, .int .i64 u] 35)).drew.drew) := (lay (Below.refl _ _) _).drew.drew
  have H4 := H2.below (Below.refl _ _).drew.drew
  have H5 := H2.below W1B
  have x1 : w2.drew.drew.cell? ⟨r, 1, none⟩ = some (.slice y N cp) := H4.blk.cell 1
  have x2 : ((w2.alloc (.cells #[.int .i64 j, .int .i64 i, .int .i64 a, .string c, .string g, .string n, .int .i64 t, .int .i64 u] 35)).drew.drew).cell? ⟨r, 1, none⟩ = some (.slice y N cp) := H5.blk.cell 1
  have K3 := K2.below (Below.refl _ _).drew.drew
  have z0 := K3.cell 0
  have z1 := K3.cell 1
  have z2 := K3.cell 2
  have z3 := K3.cell 3
  have z4 := K3.cell 4
  have z5 := K3.cell 5
  have z6 := K3.cell 6
  have z7 := K3.cell 7
  simp only [List.getElem?_toArray, List.getElem?_cons_succ, List.getElem?_cons_zero] at z0 z1 z2 z3 z4 z5 z6 z7
  have HOWN : Hid (((w2.alloc (.cells #[.int .i64 j, .int .i64 i, .int .i64 a, .string c, .string g, .string n, .int .i64 t, .int .i64 u] 35)).drew.drew).ownsRow B 35 8 (.slice y N cp) N (aF D)) := by
    have := H5.own
    rw [← HN.out] at this
    exact this
  have HROW : Hid (Row ((w2.alloc (.cells #[.int .i64 j, .int .i64 i, .int .i64 a, .string c, .string g, .string n, .int .i64 t, .int .i64 u] 35)).drew.drew) (.slice (some ⟨w2.heap.size, 0, none⟩) 1 1) 1 (akC (⟨j, i, a, c, g, n, t, u⟩ : Ak))) := Row.of_blk ((Blk.new w2 #[.int .i64 j, .int .i64 i, .int .i64 a, .string c, .string g, .string n, .int .i64 t, .int .i64 u] 35).below (Below.refl _ _).drew.drew) rfl 1 1
  have HBW : Hid (Below w.heap.size w ((w2.alloc (.cells #[.int .i64 j, .int .i64 i, .int .i64 a, .string c, .string g, .string n, .int .i64 t, .int .i64 u] 35)).drew.drew)) := next B2 W1B
  have HZ5 : Hid (r < ((w2.alloc (.cells #[.int .i64 j, .int .i64 i, .int .i64 a, .string c, .string g, .string n, .int .i64 t, .int .i64 u] 35)).drew.drew).heap.size) := H5.blk.lt
  have HSEP : Hid ((Value.slice y N cp).ownBlock ≠ some r) := H5.sep
  have HOK : Hid (∀ x ∈ D ++ [(⟨j, i, a, c, g, n, t, u⟩ : Ak)], OkA x) := fun x hx => by
    rcases List.mem_append.1 hx with h1 | h1
    · exact H2.ok x h1
    · simp at h1; subst h1; exact wrong_iff.1 hb
  have HK : Hid (∀ (w5 : World) (v5 : Value), w5.ownsRow B 35 8 v5 (N + 1) (aF D ++ akC (⟨j, i, a, c, g, n, t, u⟩ : Ak)) → ((w2.alloc (.cells #[.int .i64 j, .int .i64 i, .int .i64 a, .string c, .string g, .string n, .int .i64 t, .int .i64 u] 35)).drew.drew).grownBy w5 (Value.slice y N cp).ownBlock → (∀ k, v5.ownBlock = some k → (Value.slice y N cp).ownBlock = some k ∨ ((w2.alloc (.cells #[.int .i64 j, .int .i64 i, .int .i64 a, .string c, .string g, .string n, .int .i64 t, .int .i64 u] 35)).drew.drew).heap.size ≤ k) →
      w5.cell? ⟨r, 1, none⟩ = some (.slice y N cp) ∧ w5.frozen? ⟨r, 1, none⟩ = false ∧ RS B (w5.setCell ⟨r, 1, none⟩ v5) r most v5 (D ++ [(⟨j, i, a, c, g, n, t, u⟩ : Ak)]) ∧ Turn (rft r (.slice y N cp)) w (w5.setCell ⟨r, 1, none⟩ v5) ∧ ∀ k, rft r v5 k → rft r (.slice y N cp) k ∨ w.heap.size ≤ k) := fun w5 v5 ho hg hk => by
    have kb := H5.blk.grown hg (fun e => HSEP.out e.symm)
    have hne : v5.ownBlock ≠ some r := fun e => by
      rcases hk r e with h1 | h1
      · exact HSEP.out h1
      · have := HZ5.out; omega
    have hts : Turn (fun k => k = r) w5 (w5.setCell ⟨r, 1, none⟩ v5) := Turn.of_set (p := ⟨r, 1, none⟩) (S := fun k => k = r) w5 rfl v5
    have htg : Turn (fun k => (Value.slice y N cp).ownBlock = some k) ((w2.alloc (.cells #[.int .i64 j, .int .i64 i, .int .i64 a, .string c, .string g, .string n, .int .i64 t, .int .i64 u] 35)).drew.drew) w5 := Turn.of_grown hg (fun _ e => e)
    refine ⟨kb.cell 1, kb.frozen 1, ⟨kb.set 1 v5, ?_, H5.new, H5.m1, H5.m2, by rw [List.length_append]; simp; omega, HOK.out⟩, ?_, fun k hk' => ?_⟩
    · have := hts.row ho (fun k hk' e => hne (by rw [hk', e]))
      rw [aF_app, aF_single, List.length_append, ← HN.out]
      exact this
    · exact ((Turn.of_below HBW.out).trans htg (fun k e => .inl (.inr e))).trans hts (fun k e => .inl (.inl e))
    · rcases hk' with e | e
      · exact .inl (.inl e)
      · rcases hk k e with h1 | h1
        · exact .inl (.inr h1)
        · exact .inr (Nat.le_trans HBW.out.size h1)
  clear H2 H4 H5 K2 K3 W1B B2
  go_region_law ((refine step_appG _ (by rfl) (.tmp 54) (.tmp 56) 46 35 ia _ 8 88 Try.underlying46 hia hz0 hz1 hz2 rfl (by decide) (by rfl) B (.slice y N cp) N (aF D) (by rfl) HOWN.out (.slice (some ⟨w2.heap.size, 0, none⟩) 1 1) 1 (akC (⟨j, i, a, c, g, n, t, u⟩ : Ak)) (by rfl) HROW.out rfl (by rw [← aF_single]; exact aF_one _) (by omega) (by unfold maxLen; omega) (by have := HBW.out.size; omega) ?_; intro v5 w5 h1 h3 h4; obtain ⟨xx5, fx5, hrs, htn, hft⟩ := HK.out w5 v5 h1 h3 h4; obtain ⟨y5, c5, rfl⟩ := row_shape h1; clear h1 h3 h4))
  all_goals go_wp2
  all_goals go_ret
  all_goals exact ⟨rfl, _, hrs, htn.more (fun k e => by rw [← HN.out]; exact e), fun k hk => by have := hft k hk; rw [← HN.out]; exact this⟩

theorem rall_any {B : Nat} {w : World} {r most : Nat} {v : Value} {D : List Ak} (h : RS B w r most v D) (N : Nat) (hN : D.length = N) :
    Calls Try.prog 21 #[.pointer (some ⟨r, 0, none⟩)] w fun e w' => ∃ y c, e = .returned (.slice y N c) ∧ w'.ownsRow w.heap.size 35 8 (.slice y N c) N (aF D) ∧ Below w.heap.size w w' := by
  obtain ⟨ia, hia, hz0, hz1, hz2⟩ := info_parts infoA
  have hb := lay (Below.refl w.heap.size w) (.cells #[] 35)
  have h2 := h.below hb
  have hown := own_blk (B := w.heap.size) (z := 8) (n := 0) (xs := []) (Blk.new w #[] 35) (Nat.le_refl _) rfl rfl (Nat.zero_le _)
  have hl := aF_len D
  have h1c := aF_one D
  have hN16 : N ≤ 16 := by have := h.m2; have := h.len; omega
  rw [hN] at hl
  have hrow := Row.of_own h2.own
  rw [hN] at hrow
  obtain ⟨y, cp, rfl⟩ := row_slice hrow
  have x1 : _ = some (Value.slice y N cp) := h2.blk.cell 1
  generalize aF D = ys at hrow hl h1c ⊢
  have hbs := hb.size
  clear hN h h2
  go_enter Try.func21, Try.ntmps21
  go_wp2_with (at_builtin; refine wpList_appG _ rfl (.tmp 3) (.tmp 7) 46 35 ia _ 8 88 Try.underlying46 hia hz0 hz1 hz2 rfl (by decide) rfl w.heap.size _ 0 [] rfl hown (.slice y N cp) N ys rfl hrow hl h1c (by omega) (by unfold maxLen; omega) hbs ?_; intro v' w2 h1 h3 _)
  go_ret
  have h4 : w2.ownsRow w.heap.size 35 8 v' N ys := by simpa using h1
  obtain ⟨y', c', rfl⟩ := row_shape h4
  exact ⟨y', c', rfl, h4, hb.grown h3 hb.size (fun j e => (hown.lt j e).1)⟩

end Ou
end Go.Proofs.Ytbldoplemfjcjaa
