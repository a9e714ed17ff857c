/- CompData holds: for every string and every two numbers, names within data are written out, and what ends elsewhere is refused. -/
import Derived.Test.YtpfbmemejajbjabCpJ
import Derived.Test.YtpfbmemejajbjabCpM
import Derived.Deep.DeepCutAuto
import Derived.ProofKit
import Derived.OpenShut
import Derived.ShutString
namespace Go.Proofs.Ytpfbmemejajbjab.compData
open Go.ChangeShapes Go.WideShapes Go.ChangeAt Go.RowKit
open Go.ChangeMaps (open_string shut_string)
open Pl

theorem add_off (g i : Nat) : (⟨g, 0, none⟩ : Addr).add i = ⟨g, i, none⟩ := by unfold Addr.add; split <;> simp_all
/-- A block of one byte becomes a string, in whatever world it lies. -/
theorem one_str (b : UInt8) (g : Nat) (u : World) (h : u.cell? ⟨g, 0, none⟩ = some (.int .u8 (b.toNat : Int))) : (convert 24 9 (.slice (some ⟨g, 0, none⟩) 1 1)).run Try.prog u = .ok (.string ⟨#[b]⟩) u := by
  refine run_convert_bytes_back _ 24 9 5 ⟨g, 0, none⟩ 1 [b] Try.underlying24 Try.underlying5 Try.underlying9 fun j hj => ?_
  obtain rfl : j = 0 := by simp at hj; omega
  rw [add_off, h]; rfl
theorem one_n (b : UInt8) (u : World) : (u.alloc (.cells #[.int .u8 (b.toNat : Int)] 5)).cell? ⟨u.heap.size, 0, none⟩ = some (.int .u8 (b.toNat : Int)) := by rw [World.cell?_alloc_mark]; rfl
theorem one_later {b : UInt8} {u v : World} (h : Below (u.alloc (.cells #[.int .u8 (b.toNat : Int)] 5)).heap.size (u.alloc (.cells #[.int .u8 (b.toNat : Int)] 5)) v) : (convert 24 9 (.slice (some ⟨u.heap.size, 0, none⟩) 1 1)).run Try.prog v = .ok (.string ⟨#[b]⟩) v := by
  apply one_str
  have h1 := one_n b u
  rw [h.cell (World.block_lt_of_cell? _ _ h1)]; exact h1

theorem d_len {N : List UInt8} (c : UInt8) : (N ++ [0, c] ++ (ptrB 0 ++ [])).length = N.length + 4 := by simp [ptrB]
theorem d_ptr {N : List UInt8} (hn : isName N = true) (c : UInt8) (t : List UInt8) : nameOf (N ++ [0, c] ++ (ptrB 0 ++ t)) (N.length + 2) = some (N, N.length + 4) := by
  have := name_ptr0 hn [0, c] t
  exact this
theorem d_a {N : List UInt8} (hn : isName N = true) (c : UInt8) : dataOf (N ++ [0, c] ++ (ptrB 0 ++ [])) N.length 4 15 = some ([0, c] ++ N) := by
  rw [data_15, if_neg (by decide), d_ptr hn c [], dtN, if_pos rfl, List.append_assoc, List.drop_left]; rfl
theorem d_b {N : List UInt8} (hn : isName N = true) (c : UInt8) : dataOf (N ++ [0, c] ++ (ptrB 0 ++ [])) (N.length + 2) 2 2 = some N := by
  rw [data_n (.inl rfl), d_ptr hn c [], dtN, if_pos (by omega)]; rfl
theorem d_c {N : List UInt8} (c : UInt8) : dataOf (N ++ [0, c] ++ (ptrB 0 ++ [])) N.length 4 999 = some ([0, c] ++ ptrB 0) := by
  rw [data_o (by decide) (by decide) (by decide)]
  have : ((N ++ [0, c] ++ (ptrB 0 ++ [])).drop N.length).take 4 = [0, c] ++ ptrB 0 := by rw [List.append_assoc, List.drop_left]; rfl
  rw [this, if_pos (by rw [may_o (by unfold Other; omega)]; rfl)]
theorem d_h {N : List UInt8} (hn : isName N = true) (c : UInt8) : dataOf (N ++ [0, c] ++ (ptrB 0 ++ [])) N.length 3 15 = none := by
  rw [data_15, if_neg (by decide), d_ptr hn c [], dtN, if_neg (by omega)]
theorem d_i {N : List UInt8} (hn : isName N = true) (c : UInt8) : dataOf (N ++ [0, c] ++ (ptrB 0 ++ [122])) (N.length + 2) 3 5 = none := by
  rw [data_n (.inr (.inl rfl)), d_ptr hn c [122], dtN, if_neg (by omega)]
theorem d_m {N : List UInt8} (c : UInt8) : dataOf (N ++ [0, c] ++ (ptrB 0 ++ [])) 0 N.length 1 = if N.length = 4 then some N else none := by
  rw [data_o (by decide) (by decide) (by decide)]
  have : ((N ++ [0, c] ++ (ptrB 0 ++ [])).drop 0).take N.length = N := by rw [List.drop_zero, List.append_assoc, List.take_left]
  rw [this, may_1]
  by_cases h : N.length = 4
  · simp [h]
  · simp [h]

/-- Data of package comp, where it is known what there is. -/
theorem data_k (T : ByteArray) (x y : Int) (p n : Nat) (t : Int) (D : ByteArray) (E : Int) (R : Option (List UInt8)) (w : World) (hT : T.size ≤ 100000) (hx : x = (p : Int)) (hy : y = (n : Int)) (hpn : p + n ≤ T.size) (h : dataOf T.data.toList p n t = R) (hD : dtV R = .tuple #[.string D, .int .i64 E]) :
    Calls Try.prog 8 #[.string T, .int .i64 x, .int .i64 y, .int .i64 t] w fun e w' => e = .returned (.tuple #[.string D, .int .i64 E]) ∧ Below w.heap.size w w' := by
  subst hx; subst hy; rw [← hD]; exact cData_as T p n t R w (by omega) hpn h
theorem dt_some {l : List UInt8} {D : ByteArray} (h : D.data.toList = l) : dtV (some l) = .tuple #[.string D, .int .i64 0] := by subst h; rfl
theorem dt_none : dtV none = .tuple #[.string ⟨#[]⟩, .int .i64 500] := rfl

set_option maxRecDepth 20000 in
set_option maxHeartbeats 4000000 in
theorem walk (s : ByteArray) (y z : Int) (hs : s.size ≤ maxLen) (_ : (Lit.int .i64 y).wf = true) (_ : (Lit.int .i64 z).wf = true) (w : World) :
    Calls Try.prog 3 #[.string s, .int .i64 y, .int .i64 z] w fun e w' => e = .returned (.bool true) ∧ Below w.heap.size w w' := by
  have hb : Below w.heap.size w w := Below.refl _ _
  have hsl := data_len s
  cases hn : isName s.data.toList with
  | false =>
    go_enter Try.func3, Try.ntmps3
    go_wp2_with (first
      | (go_at_call 5; go_must (refine (awake_any _).mono ?_); rintro e w0 ⟨rfl, b0⟩; replace hb := next hb b0; clear b0)
      | (go_at_call 6; go_must (refine (refMay_at s false _ hs hn).mono ?_); rintro e w0 ⟨rfl, b0⟩; replace hb := next hb b0; clear b0))
    go_ret
    exact ⟨rfl, hb⟩
  | true =>
    have hs255 := name_size hn
    have HN : Hid (isName s.data.toList = true) := hn
    have m6 : bits .and .i64 z 63 = z % 64 := mask z 6 (by decide)
    obtain ⟨j, hj⟩ : ∃ j : Nat, z % 64 = (j : Int) := ⟨(z % 64).toNat, by omega⟩
    have hj64 : j < 64 := by omega
    rw [hj] at m6
    obtain ⟨c, hc⟩ : ∃ c : UInt8, IntKind.u8.wrap y = (c.toNat : Int) := ⟨UInt8.ofNat (y % 256).toNat, by rw [toNat_of (by omega)]; simp [IntKind.wrap, IntKind.bits, IntKind.signed]; omega⟩
    have hc2 : y % 256 = (c.toNat : Int) := by rw [← hc]; simp [IntKind.wrap, IntKind.bits, IntKind.signed]
    obtain ⟨k, hk⟩ : ∃ k, k = s.size := ⟨_, rfl⟩
    have hkl : s.data.toList.length = k := by rw [hsl, hk]
    obtain ⟨P, hP⟩ : ∃ P : ByteArray, P = ⟨(ptrB 0).toArray⟩ := ⟨_, rfl⟩
    have lP : P.data.toList = ptrB 0 ++ [] := by rw [hP]; simp
    have zP : P.size = 2 := by rw [hP, toArr_size]; simp [ptrB]
    obtain ⟨C, hC⟩ : ∃ C : ByteArray, C = ⟨#[c]⟩ := ⟨_, rfl⟩
    have zC : C.size = 1 := by rw [hC]; rfl
    obtain ⟨S, hS⟩ : ∃ S : ByteArray, S = s ++ ⟨#[0]⟩ ++ C ++ P := ⟨_, rfl⟩
    have lS : S.data.toList = s.data.toList ++ [0, c] ++ (ptrB 0 ++ []) := by rw [hS, app_list, app_list, app_list, lP, hC]; simp
    have zS : S.size = k + 4 := by rw [← data_len, lS, d_len c, hkl]
    obtain ⟨D1, hD1⟩ : ∃ D1 : ByteArray, D1 = ⟨#[0]⟩ ++ C ++ s := ⟨_, rfl⟩
    have lD1 : D1.data.toList = [0, c] ++ s.data.toList := by rw [hD1, app_list, app_list, hC]; simp
    obtain ⟨D3, hD3⟩ : ∃ D3 : ByteArray, D3 = S.extract k S.size := ⟨_, rfl⟩
    have lD3 : D3.data.toList = [0, c] ++ ptrB 0 := by rw [hD3, ext_from, lS, List.append_assoc, ← hkl, List.drop_left, List.append_nil]
    have lZ : (S ++ ⟨#[122]⟩ : ByteArray).data.toList = s.data.toList ++ [0, c] ++ (ptrB 0 ++ [122]) := by rw [app_list, lS]; simp
    have A1 : Hid (∀ u, Calls Try.prog 8 #[.string S, .int .i64 (k : Int), .int .i64 4, .int .i64 15] u fun e w' => e = .returned (.tuple #[.string D1, .int .i64 0]) ∧ Below u.heap.size u w') := fun u =>
      data_k S _ _ k 4 15 D1 0 _ u (by omega) rfl rfl (by omega) (by rw [lS, ← hkl]; exact d_a hn c) (dt_some lD1)
    have A2 : Hid (∀ u, Calls Try.prog 8 #[.string S, .int .i64 ((k : Int) + 2), .int .i64 2, .int .i64 2] u fun e w' => e = .returned (.tuple #[.string s, .int .i64 0]) ∧ Below u.heap.size u w') := fun u =>
      data_k S _ _ (k + 2) 2 2 s 0 _ u (by omega) (by omega) rfl (by omega) (by rw [lS, ← hkl]; exact d_b hn c) (dt_some rfl)
    have A3 : Hid (∀ u, Calls Try.prog 8 #[.string S, .int .i64 (k : Int), .int .i64 4, .int .i64 999] u fun e w' => e = .returned (.tuple #[.string D3, .int .i64 0]) ∧ Below u.heap.size u w') := fun u =>
      data_k S _ _ k 4 999 D3 0 _ u (by omega) rfl rfl (by omega) (by rw [lS, ← hkl]; exact d_c c) (dt_some lD3)
    have A4 : Hid (∀ u, Calls Try.prog 8 #[.string S, .int .i64 (k : Int), .int .i64 3, .int .i64 15] u fun e w' => e = .returned (.tuple #[.string ⟨#[]⟩, .int .i64 500]) ∧ Below u.heap.size u w') := fun u =>
      data_k S _ _ k 3 15 _ _ _ u (by omega) rfl rfl (by omega) (by rw [lS, ← hkl]; exact d_h hn c) dt_none
    have A5 : Hid (∀ u, Calls Try.prog 8 #[.string (S ++ ⟨#[122]⟩), .int .i64 ((k : Int) + 2), .int .i64 3, .int .i64 5] u fun e w' => e = .returned (.tuple #[.string ⟨#[]⟩, .int .i64 500]) ∧ Below u.heap.size u w') := fun u =>
      data_k _ _ _ (k + 2) 3 5 _ _ _ u (by rw [ByteArray.size_append]; show S.size + 1 ≤ _; omega) (by omega) rfl (by rw [ByteArray.size_append]; show _ ≤ S.size + 1; omega) (by rw [lZ, ← hkl]; exact d_i hn c) dt_none
    have A6 : Hid (∀ u, Calls Try.prog 8 #[.string S, .int .i64 (k : Int), .int .i64 (5 + (j : Int)), .int .i64 999] u fun e w' => e = .returned (.tuple #[.string ⟨#[]⟩, .int .i64 500]) ∧ Below u.heap.size u w') := fun u =>
      cData_bad S _ _ _ u (by omega) (.inr (.inr (by omega)))
    have hway : ∃ (D7 : ByteArray) (E : Int), Hid (∀ u, Calls Try.prog 8 #[.string S, .int .i64 0, .int .i64 (k : Int), .int .i64 1] u fun e w' => e = .returned (.tuple #[.string D7, .int .i64 E]) ∧ Below u.heap.size u w') ∧ (E == 0) = ((k : Int) == 4) := by
      by_cases h4 : k = 4
      · exact ⟨s, 0, fun u => data_k S _ _ 0 k 1 s 0 (some s.data.toList) u (by omega) rfl rfl (by omega) (by rw [lS]; have := d_m (N := s.data.toList) c; rw [hkl] at this; rw [this, if_pos h4]) (dt_some rfl), by rw [h4]; rfl⟩
      · exact ⟨_, 500, fun u => data_k S _ _ 0 k 1 _ 500 none u (by omega) rfl rfl (by omega) (by rw [lS]; have := d_m (N := s.data.toList) c; rw [hkl] at this; rw [this, if_neg h4]) dt_none, (show ((500 : Int) == 0) = ((k : Int) == 4) from by rw [show ((k : Int) == 4) = false from by simp; omega]; rfl)⟩
    obtain ⟨D7, E, A7, hE⟩ := hway
    have QP : Hid (∀ u, Calls Try.prog 7 #[.int .i64 0] u fun e w' => e = .returned (.string P) ∧ Below u.heap.size u w') := fun u => pt_as 0 _ P u (by omega) rfl hP
    have hks : (s.size : Int) = (k : Int) := by omega
    have hk255 : k ≤ 255 := by omega
    have HSS : Hid (S = s ++ ⟨#[0]⟩ ++ C ++ P) := hS
    have HDD : Hid (D1 = ⟨#[0]⟩ ++ C ++ s) := hD1
    have HCC : Hid (C = ⟨#[c]⟩) := hC
    have hyc := cut_rest S k k rfl (by omega)
    rw [← hD3] at hyc
    have g1 : s.size + (⟨#[0]⟩ : ByteArray).size ≤ 100000 := by show s.size + 1 ≤ _; omega
    have g2 : (s ++ ⟨#[0]⟩ : ByteArray).size + C.size ≤ 100000 := by rw [ByteArray.size_append]; show s.size + 1 + _ ≤ _; omega
    have g3 : (s ++ ⟨#[0]⟩ ++ C : ByteArray).size + P.size ≤ 100000 := by rw [ByteArray.size_append, ByteArray.size_append]; show s.size + 1 + _ + _ ≤ _; omega
    clear hC hn hP lP lS lD1 hD3 lD3 lZ hkl hS hD1 hsl hk hj
    go_enter Try.func3, Try.ntmps3
    go_upto_region 5 with (first
      | (go_at_call 5; go_must (refine (awake_any _).mono ?_); rintro e w0 ⟨rfl, b0⟩; replace hb := next hb b0; clear b0)
      | (go_at_call 6; go_must (refine (refMay_at s true _ hs HN.out).mono ?_); rintro e w1 ⟨rfl, b0⟩; replace hb := next hb b0; clear b0))
    go_cut [7] (fun x wx => x = .string S ∧ Below w.heap.size w wx)
    case first =>
      have k1 : ∀ u : World, (convert 24 9 (.slice (some ⟨u.heap.size, 0, none⟩) 1 1)).run Try.prog (u.alloc (.cells #[.int .u8 (c.toNat : Int)] 5)) = .ok (.string C) (u.alloc (.cells #[.int .u8 (c.toNat : Int)] 5)) := fun u => by rw [HCC.out]; exact one_later (Below.refl _ _)
      have k2 : ∀ u : World, (convert 24 9 (.slice (some ⟨u.heap.size, 0, none⟩) 1 1)).run Try.prog (u.alloc (.cells #[.int .u8 (c.toNat : Int)] 5)).drew = .ok (.string C) (u.alloc (.cells #[.int .u8 (c.toNat : Int)] 5)).drew := fun u => by rw [HCC.out]; exact one_later (Below.refl _ _).drew
      go_region_held (fun _ => True) (trivial)
        (first
          | (go_at_call 7; refine (QP.out _).mono ?_; rintro e w3 ⟨rfl, b3⟩; first | (have k3 : (convert 24 9 (.slice (some ⟨w1.heap.size, 0, none⟩) 1 1)).run Try.prog w3 = .ok (.string C) w3 := (by rw [HCC.out]; exact one_later (u := w1) (next (Below.refl _ _).drew b3)); have hb3 : Below w.heap.size w w3 := next (lay hb _).drew b3) | (have hb3 : Below w.heap.size w w3 := next hb.drew b3)))
      all_goals (go_wp2_with fail; go_meet; exact ⟨by rw [HSS.out], by first | exact hb3 | exact lay hb3 _⟩)
    case rest =>
    obtain ⟨rfl, hbc⟩ := hcut
    have k1 : ∀ u : World, (convert 24 9 (.slice (some ⟨u.heap.size, 0, none⟩) 1 1)).run Try.prog (u.alloc (.cells #[.int .u8 (y % 256)] 5)) = .ok (.string C) (u.alloc (.cells #[.int .u8 (y % 256)] 5)) := fun u => by rw [HCC.out, hc2]; exact one_later (Below.refl _ _)
    have hDD := HDD.out.symm
    clear hb hc2 hc
    go_wp2_with (first
      | (go_at_call 8; have _t := A1; go_must (refine (A1.out _).mono ?_); rintro e w2 ⟨rfl, b0⟩; replace hbc := next hbc b0; clear b0 A1 _t)
      | (go_at_call 8; have _t := A2; go_must (refine (A2.out _).mono ?_); rintro e w3 ⟨rfl, b0⟩; replace hbc := next hbc b0; clear b0 A2 _t)
      | (go_at_call 8; have _t := A3; go_must (refine (A3.out _).mono ?_); rintro e w4 ⟨rfl, b0⟩; replace hbc := next hbc b0; clear b0 A3 _t)
      | (go_at_call 8; have _t := A4; go_must (refine (A4.out _).mono ?_); rintro e w5 ⟨rfl, b0⟩; replace hbc := next hbc b0; clear b0 A4 _t)
      | (go_at_call 8; have _t := A5; go_must (refine (A5.out _).mono ?_); rintro e w6 ⟨rfl, b0⟩; replace hbc := next hbc b0; clear b0 A5 _t)
      | (go_at_call 8; have _t := A6; go_must (refine (A6.out _).mono ?_); rintro e w7 ⟨rfl, b0⟩; replace hbc := next hbc b0; clear b0 A6 _t)
      | (go_at_call 8; have _t := A7; go_must (refine (A7.out _).mono ?_); rintro e w8 ⟨rfl, b0⟩; replace hbc := next hbc b0; clear b0 A7 _t)
      | (go_at_call 9; refine (num_any _ _).mono ?_; rintro e w' ⟨rfl, hw⟩; obtain rfl := hw.symm))
    go_ret
    exact ⟨rfl, by first | exact hbc | exact lay hbc _⟩

theorem own : ownKnob Try.prog.godebug = none := by kernel_rfl

set_option maxRecDepth 100000 in
theorem lifted (os : Os) (started : os.Started) (H : Type) (enc : TypeId × Value → H) :
    ReturnsInHanded {} Try.checked os 3 .any (Rows.compDataSpec.pre6 enc Try.prog Try.f3 Rows.compDataRow.domain false) (Rows.compDataSpec.post enc Try.prog Try.f3 false true false false) := by
  refine returnsInHanded_of_change (C := Try.checked) own started (by kernel_rfl) Try.func3
    (ChangeSpec.witness6 (enc := enc) (C := Try.checked) false ⟨#[], #[.string ByteArray.empty, .int .i64 0, .int .i64 0], []⟩ 8 (by kernel_rfl) (by kernel_rfl) (by kernel_rfl) (by kernel_rfl)) ?_
  intro W base args ds gs before hval0 hW _ _
  have hval : ∀ (j : Nat) t v, Try.f3.params[j]? = some t → args[j]? = some v → Value.okWide Try.prog W .any base t v := hval0
  have hW' := hW
  obtain ⟨p, q, hA0, hV, rfl, hfz, hnd⟩ := hW
  have hA : DataW.TrodAll enc Try.prog W 0 (fun _ => true) true Try.f3.params.toList args.toList ds p := hA0
  rw [Try.params3] at hA hval
  obtain ⟨v0, vs0, d0, ds0, p0, q0, hargs, rfl, rfl, h0, r0⟩ := trodAll_cons hA
  obtain ⟨v1, vs1, d1, ds1, p1, q1, rfl, rfl, rfl, h1, r1⟩ := trodAll_cons r0
  obtain ⟨v2, vs2, d2, ds2, p2, q2, rfl, rfl, rfl, h2, r2⟩ := trodAll_cons r1
  obtain ⟨rfl, rfl, rfl⟩ := trodAll_nil r2
  obtain rfl : args = #[v0, v1, v2] := by cases args; simp_all
  obtain ⟨rfl, rfl⟩ := trodVars_none hV
  obtain ⟨a0, rfl, rfl, rfl, w0⟩ := open_string Try.underlying9 (hval 0 9 v0 rfl rfl) h0
  obtain ⟨a1, rfl, rfl, rfl, w1⟩ := open_int Try.underlying3 (hval 1 3 v1 rfl rfl) h1
  obtain ⟨a2, rfl, rfl, rfl, w2⟩ := open_int Try.underlying3 (hval 2 3 v2 rfl rfl) h2
  clear hA0 hval0
  simp only [List.append_nil] at hW'
  refine (walk a0 a1 a2 w0 w1 w2 W ).mono fun e W' ⟨he, bel⟩ => ?_
  subst he
  exact ⟨_, rfl, _, _, _, [], [], [], hW', trodAll_mk1 (shut_bool Try.underlying4 _), (trodAll_cons_mk (shut_string Try.underlying9 w0) (trodAll_cons_mk (shut_int Try.underlying3 w1) (trodAll_cons_mk (shut_int Try.underlying3 w2) trodAll_mk0))), rfl, bel.frame _, fun h => by cases h⟩

/-- The statement. -/
theorem proved : Rows.CompDataSaid :=
  OpenClaim.holds_of_wide 3 Try.f3 rfl rfl rfl rfl rfl rfl rfl ⟨rfl, rfl, rfl, rfl, rfl⟩ rfl rfl rfl rfl rfl (by kernel_rfl) Try.func3 (by kernel_rfl)
    (of_decide_eq_true (by kernel_rfl)) (by unfold Func.isWrapper; first | (rw [if_pos (by decide +kernel)]; kernel_rfl) | (rw [if_neg (by decide +kernel)]; exact ⟨rfl, rfl⟩))
    (fun os started H enc _ => lifted os started H enc)
#print axioms proved

end Go.Proofs.Ytpfbmemejajbjab.compData
