/- What a law asks, and what every program answers that is one. -/
import Derived.Test.YtbldoplemfjcjaaOuQ
namespace Go.Proofs.Ytbldoplemfjcjaa
open Go.RowKit
open Pl
namespace Ou

theorem ak_eq (j i a : Int) (c g n : ByteArray) (t u : Int) (j' i' a' : Int) (c' g' n' : ByteArray) (t' u' : Int) (v : Bool) (hv : (decide (j = j') && (decide (i = i') && (decide (a = a') && (decide (c = c') && (decide (g = g') && (decide (n = n') && (decide (t = t') && decide (u = u')))))))) = v) (U : World) :
    (binOp .eql 35 (.agg #[.int .i64 j, .int .i64 i, .int .i64 a, .string c, .string g, .string n, .int .i64 t, .int .i64 u]) (.agg #[.int .i64 j', .int .i64 i', .int .i64 a', .string c', .string g', .string n', .int .i64 t', .int .i64 u'])).run Try.prog U = .ok (.bool v) U := by
  have h1 := run_eql_struct (P := Try.prog) (w := U) 35 #[.int .i64 j, .int .i64 i, .int .i64 a, .string c, .string g, .string n, .int .i64 t, .int .i64 u] #[.int .i64 j', .int .i64 i', .int .i64 a', .string c', .string g', .string n', .int .i64 t', .int .i64 u']
  rw [h1]
  rw [show (10000 : Nat) = 9999 + 1 from rfl, run_equalIn_struct (P := Try.prog) U 9999 35 #[.int .i64 j, .int .i64 i, .int .i64 a, .string c, .string g, .string n, .int .i64 t, .int .i64 u] #[.int .i64 j', .int .i64 i', .int .i64 a', .string c', .string g', .string n', .int .i64 t', .int .i64 u'] (by kernel_rfl) (by kernel_rfl)]
  go_simp
  subst hv
  have hb : ∀ x y : ByteArray, (x.toList = y.toList) = (x = y) := fun x y => propext ⟨fun e => ByteArray.ext (Array.ext' (by rw [ByteArray.toList_eq, ByteArray.toList_eq] at e; exact e)), fun e => by rw [e]⟩
  simp only [hb]
  by_cases e0 : j = j'
  rotate_left
  · simp [e0]
  by_cases e1 : i = i'
  rotate_left
  · simp [e1]
  by_cases e2 : a = a'
  rotate_left
  · simp [e2]
  by_cases e3 : c = c'
  rotate_left
  · simp [e3]
  by_cases e4 : g = g'
  rotate_left
  · simp [e4]
  by_cases e5 : n = n'
  rotate_left
  · simp [e5]
  by_cases e6 : t = t'
  rotate_left
  · simp [e6]
  by_cases e7 : u = u'
  rotate_left
  · simp [e7]
  simp [e0, e1, e2, e3, e4, e5, e6, e7]

def awA (j i a u : Int) : Ak := ⟨j, i, a, ⟨#[0]⟩, ⟨#[1, 97, 0]⟩, ⟨#[1, 97, 0]⟩, 1, u⟩
theorem awA_far (j i a u : Int) : Far (awA j i a u) := ⟨by show (1 : Nat) ≤ _; omega, by show (3 : Nat) ≤ _; omega, by show (3 : Nat) ≤ _; omega⟩
theorem asked_any (j i a u : Int) (w : World) :
    Calls Try.prog 22 #[.int .i64 j, .int .i64 i, .int .i64 a, .int .i64 u] w fun e w' => e = .returned (.agg #[.int .i64 j, .int .i64 i, .int .i64 a, .string ⟨#[0]⟩, .string ⟨#[1, 97, 0]⟩, .string ⟨#[1, 97, 0]⟩, .int .i64 1, .int .i64 u]) ∧ Below w.heap.size w w' := by
  have hk := Blk.new w #[.int .i64 0, .int .i64 0, .int .i64 0, .string ⟨#[]⟩, .string ⟨#[]⟩, .string ⟨#[]⟩, .int .i64 0, .int .i64 0] 35
  have hb := lay (Below.refl w.heap.size w) (.cells #[.int .i64 0, .int .i64 0, .int .i64 0, .string ⟨#[]⟩, .string ⟨#[]⟩, .string ⟨#[]⟩, .int .i64 0, .int .i64 0] 35)
  go_enter Try.func22, Try.ntmps22
  go_wp2_with (refine wpList_storeS _ rfl (.tmp 8) (.tmp 14) 35 rfl w.heap.size _ _ 35 rfl rfl hk (by kernel_rfl) rfl (by simp [Value.oneCell']) ?_; intro w2 k2 t2 _ _)
  exact bodyPost_ret (v := .agg #[.int .i64 j, .int .i64 i, .int .i64 a, .string ⟨#[0]⟩, .string ⟨#[1, 97, 0]⟩, .string ⟨#[1, 97, 0]⟩, .int .i64 1, .int .i64 u]) (ret_s rfl rfl k2 ⟨_, Try.underlying35⟩ (by kernel_rfl)) rfl ⟨rfl, t2.one_below hb (Nat.le_refl _)⟩

theorem aw1 : addE 2 [] (awA 1 5 7 10) = 0 := by decide
theorem aw1d : addD 2 [] (awA 1 5 7 10) = [awA 1 5 7 10] := by rfl
theorem aw2 : addE 2 [awA 1 5 7 10] (awA 2 6 7 9) = 0 := by decide
theorem aw3 : addE 2 [awA 1 5 7 10, awA 2 6 7 9] (awA 3 6 7 9) = 1901 := by decide
theorem aw4 : takeE (keyQ 7 5 ⟨#[1, 98, 0]⟩ 1 1) [awA 1 5 7 10, awA 2 6 7 9] = 1902 := by decide
theorem aw5 : takeE (keyQ 7 5 ⟨#[1, 65, 0]⟩ 1 1) [awA 1 5 7 10, awA 2 6 7 9] = 0 := by decide
theorem aw5x : takeX (keyQ 7 5 ⟨#[1, 65, 0]⟩ 1 1) [awA 1 5 7 10, awA 2 6 7 9] = awA 1 5 7 10 := by rfl
theorem aw5d : ([awA 1 5 7 10, awA 2 6 7 9] : List Ak).eraseP (mtA (keyQ 7 5 ⟨#[1, 65, 0]⟩ 1 1)) = [awA 2 6 7 9] := by rfl
theorem aw4x : takeX (keyQ 7 5 ⟨#[1, 98, 0]⟩ 1 1) [awA 1 5 7 10, awA 2 6 7 9] = akZ := by rfl
theorem aw4d : ([awA 1 5 7 10, awA 2 6 7 9] : List Ak).eraseP (mtA (keyQ 7 5 ⟨#[1, 98, 0]⟩ 1 1)) = [awA 1 5 7 10, awA 2 6 7 9] := by rfl

theorem okQ (n : ByteArray) (hn : n.size ≤ 255) (a i t c : Int) (ha : -1000000 ≤ a ∧ a ≤ 1000000) (hi : -1000000 ≤ i ∧ i ≤ 1000000) (ht : -1000000 ≤ t ∧ t ≤ 1000000) (hc : -1000000 ≤ c ∧ c ≤ 1000000) : OkK (keyQ a i n t c) :=
  ⟨WalkArith.wf_i64 (by show -9223372036854775808 ≤ a ∧ a ≤ 9223372036854775807; omega), WalkArith.wf_i64 (by show -9223372036854775808 ≤ i ∧ i ≤ 9223372036854775807; omega), by have := fdO_size n; show (fdO n).size ≤ maxLen; unfold maxLen; omega, WalkArith.wf_i64 (by show -9223372036854775808 ≤ t ∧ t ≤ 9223372036854775807; omega), WalkArith.wf_i64 (by show -9223372036854775808 ≤ c ∧ c ≤ 9223372036854775807; omega)⟩
theorem aw2d : addD 2 [awA 1 5 7 10] (awA 2 6 7 9) = [awA 1 5 7 10, awA 2 6 7 9] := by rfl
theorem aw3d : addD 2 [awA 1 5 7 10, awA 2 6 7 9] (awA 3 6 7 9) = [awA 1 5 7 10, awA 2 6 7 9] := by rfl
set_option maxRecDepth 20000 in
set_option maxHeartbeats 4000000 in
theorem awake_any (w : World) : Calls Try.prog 11 #[] w fun e w' => e = .returned (.bool true) ∧ Below w.heap.size w w' := by
  have t1 : True := trivial
  have t2 : True := trivial
  have t3 : True := trivial
  have t4 : True := trivial
  have t5 : True := trivial
  have t6 : True := trivial
  have t7 : True := trivial
  have t8 : True := trivial
  have t9 : True := trivial
  have t10 : True := trivial
  have hnew := lw_new (Below.refl w.heap.size w) 2 (by decide) (by decide)
  have hno := fun q : World => new_no 0 q (by decide)
  have heq := fun q : World => ak_eq 1 5 7 ⟨#[0]⟩ ⟨#[1, 97, 0]⟩ ⟨#[1, 97, 0]⟩ 1 10 1 5 7 ⟨#[0]⟩ ⟨#[1, 97, 0]⟩ ⟨#[1, 97, 0]⟩ 1 10 true (by decide) q
  go_enter Try.func11, Try.ntmps11
  go_wp2_with (first
    | (go_at_call 8; have _t := t1; go_must (refine hnew.mono ?_); rintro e w1 ⟨gs, rfl, s1, _⟩; clear t1 hnew)
    | (go_at_call 8; have _t := t2; go_must (refine (hno _).mono ?_); rintro e w' ⟨rfl, hw⟩; obtain rfl := hw.symm; clear t2)
    | (go_at_call 10; refine (num_any _ _).mono ?_; rintro e w' ⟨rfl, hw⟩; obtain rfl := hw.symm)
    | (go_at_call 22; have _t := t3; go_must (refine (asked_any 1 5 7 10 _).mono ?_); rintro e w2 ⟨rfl, b2⟩; have ha1 := (s1.below b2).add (by decide) 1 5 7 ⟨#[0]⟩ ⟨#[1, 97, 0]⟩ ⟨#[1, 97, 0]⟩ 1 10 (awA_far 1 5 7 10) 0 _ aw1 aw1d; clear t3 s1 b2)
    | (go_at_call 12; have _t := t4; go_must (refine ha1.mono ?_); rintro e w3 ⟨rfl, s3, _⟩; clear t4 ha1)
    | (go_at_call 22; have _t := t5; go_must (refine (asked_any 2 6 7 9 _).mono ?_); rintro e w4 ⟨rfl, b4⟩; have ha2 := (s3.below b4).add (by decide) 2 6 7 ⟨#[0]⟩ ⟨#[1, 97, 0]⟩ ⟨#[1, 97, 0]⟩ 1 9 (awA_far 2 6 7 9) 0 _ aw2 aw2d; clear t5 s3 b4)
    | (go_at_call 12; have _t := t6; go_must (refine ha2.mono ?_); rintro e w5 ⟨rfl, s5, _⟩; clear t6 ha2)
    | (go_at_call 22; have _t := t7; go_must (refine (asked_any 3 6 7 9 _).mono ?_); rintro e w6 ⟨rfl, b6⟩; have ha3 := (s5.below b6).add (by decide) 3 6 7 ⟨#[0]⟩ ⟨#[1, 97, 0]⟩ ⟨#[1, 97, 0]⟩ 1 9 (awA_far 3 6 7 9) 1901 _ aw3 aw3d; clear t7 s5 b6)
    | (go_at_call 12; have _t := t8; go_must (refine ha3.mono ?_); rintro e w7 ⟨rfl, s7, _⟩; have hk1 := s7.take 7 5 ⟨#[1, 98, 0]⟩ 1 1 (by decide) (okQ _ (by decide) 7 5 1 1 (by decide) (by decide) (by decide) (by decide)) 0 0 0 ⟨#[]⟩ ⟨#[]⟩ ⟨#[]⟩ 0 0 1902 _ aw4x aw4 aw4d; clear t8 ha3 s7)
    | (go_at_call 14; have _t := t9; go_must (refine hk1.mono ?_); rintro e w8 ⟨rfl, s8, _⟩; have b8 := lay (Below.refl w8.heap.size w8) (.cells #[.int .i64 0, .int .i64 0, .int .i64 0, .string ⟨#[]⟩, .string ⟨#[]⟩, .string ⟨#[]⟩, .int .i64 0, .int .i64 0] 35); have hk2 := (s8.below b8).take 7 5 ⟨#[1, 65, 0]⟩ 1 1 (by decide) (okQ _ (by decide) 7 5 1 1 (by decide) (by decide) (by decide) (by decide)) 1 5 7 ⟨#[0]⟩ ⟨#[1, 97, 0]⟩ ⟨#[1, 97, 0]⟩ 1 10 0 _ aw5x aw5 aw5d; clear t9 hk1 s8 b8)
    | (go_at_call 14; have _t := t10; go_must (refine hk2.mono ?_); rintro e w9 ⟨rfl, s9, _⟩; have b9 := lay (Below.refl w9.heap.size w9) (.cells #[.int .i64 1, .int .i64 5, .int .i64 7, .string ⟨#[0]⟩, .string ⟨#[1, 97, 0]⟩, .string ⟨#[1, 97, 0]⟩, .int .i64 1, .int .i64 10] 35); have k9 := Blk.new w9 #[.int .i64 1, .int .i64 5, .int .i64 7, .string ⟨#[0]⟩, .string ⟨#[1, 97, 0]⟩, .string ⟨#[1, 97, 0]⟩, .int .i64 1, .int .i64 10] 35; have hd := (s9.below b9).due 9 [awA 2 6 7 9] [] 1 rfl rfl rfl; clear t10 hk2 s9 b9)
    | (go_at_call 16; go_must (refine hd.mono ?_); go_loud (rintro e w10 ⟨y10, c10, rfl, o10, s10, p10⟩; have k10 := p10.blk _ _ _ (by decide) (by decide) k9; obtain ⟨g10, cp10, hy10, _, _⟩ := o10.form (by decide); simp only [Value.slice.injEq] at hy10; obtain ⟨rfl, _, rfl⟩ := hy10; have x0 := o10.cellAt 0 (by decide); simp only [aF, awA, akC, List.flatMap_cons, List.flatMap_nil, List.append_nil, List.getElem?_cons_zero] at x0; have z0 := k10.cell 0; have z1 := k10.cell 1; have z2 := k10.cell 2; have z3 := k10.cell 3; have z4 := k10.cell 4; have z5 := k10.cell 5; have z6 := k10.cell 6; have z7 := k10.cell 7; simp only [List.getElem?_toArray, List.getElem?_cons_succ, List.getElem?_cons_zero] at z0 z1 z2 z3 z4 z5 z6 z7; clear hd k9 p10))
    | go_in)
  have HSS : Hid (∀ u, Below w10.heap.size w10 u → u.cell? ⟨g10, 0, none⟩ = some (.int .i64 2) ∧ u.cell? ⟨w9.heap.size, 0, none⟩ = some (.int .i64 1) ∧ u.cell? ⟨w9.heap.size, 1, none⟩ = some (.int .i64 5) ∧ u.cell? ⟨w9.heap.size, 2, none⟩ = some (.int .i64 7) ∧ u.cell? ⟨w9.heap.size, 3, none⟩ = some (.string ⟨#[0]⟩) ∧ u.cell? ⟨w9.heap.size, 4, none⟩ = some (.string ⟨#[1, 97, 0]⟩) ∧ u.cell? ⟨w9.heap.size, 5, none⟩ = some (.string ⟨#[1, 97, 0]⟩) ∧ u.cell? ⟨w9.heap.size, 6, none⟩ = some (.int .i64 1) ∧ u.cell? ⟨w9.heap.size, 7, none⟩ = some (.int .i64 10)) := fun u hb => by
    have x1 := (own_past o10 hb).cellAt 0 (by decide)
    have k11 := k10.below hb
    exact ⟨x1, k11.cell 0, k11.cell 1, k11.cell 2, k11.cell 3, k11.cell 4, k11.cell 5, k11.cell 6, k11.cell 7⟩
  have b0 : Below w10.heap.size w10 w10.drew := (Below.refl _ _).drew
  have s0 := HSS.out w10.drew b0
  have hask := asked_any 1 5 7 10
  clear x0 z0 z1 z2 z3 z4 z5 z6 z7
  go_region_held_law (fun u => u.cell? ⟨g10, 0, none⟩ = some (.int .i64 2) ∧ u.cell? ⟨w9.heap.size, 0, none⟩ = some (.int .i64 1) ∧ u.cell? ⟨w9.heap.size, 1, none⟩ = some (.int .i64 5) ∧ u.cell? ⟨w9.heap.size, 2, none⟩ = some (.int .i64 7) ∧ u.cell? ⟨w9.heap.size, 3, none⟩ = some (.string ⟨#[0]⟩) ∧ u.cell? ⟨w9.heap.size, 4, none⟩ = some (.string ⟨#[1, 97, 0]⟩) ∧ u.cell? ⟨w9.heap.size, 5, none⟩ = some (.string ⟨#[1, 97, 0]⟩) ∧ u.cell? ⟨w9.heap.size, 6, none⟩ = some (.int .i64 1) ∧ u.cell? ⟨w9.heap.size, 7, none⟩ = some (.int .i64 10)) (first | with_reducible exact s0 | with_reducible exact s11' | with_reducible exact s12') (first
    | (go_at_call 10; refine (num_any _ _).mono ?_; rintro e w' ⟨rfl, hw⟩; obtain rfl := hw.symm)
    | (go_at_call 22; go_must (refine (hask _).mono ?_); rintro e w11 ⟨rfl, b11⟩; have b11' := next b0 b11; have s11 := s10.below b11'; have s11' := HSS.out w11 b11'; have hal := s11.all 0 rfl)
    | (go_at_call 20; go_must (refine hal.mono ?_); rintro e w12 ⟨y12, c12, rfl, _, s12, b12⟩; have s12' := HSS.out w12 (next b11' b12)))
  go_wp2
  go_ret
  exact ⟨rfl, s12.bel⟩

end Ou
end Go.Proofs.Ytbldoplemfjcjaa
