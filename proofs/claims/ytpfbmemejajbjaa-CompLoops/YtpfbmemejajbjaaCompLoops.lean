/- CompLoops holds: for every string and every number, pointers that lead to themselves, forwards, or out of it are refused. -/
import Derived.Test.YtpfbmemejajbjaaCpJ
import Derived.Deep.DeepCutAuto
import Derived.ProofKit
import Derived.OpenShut
import Derived.ShutString
namespace Go.Proofs.Ytpfbmemejajbjaa.compLoops
open Go.ChangeShapes Go.WideShapes Go.ChangeAt Go.RowKit
open Go.ChangeMaps (open_string shut_string)
open Pl

theorem get_app (a b : List UInt8) (i : Nat) (h : i < b.length) : ∃ h2 : a.length + i < (a ++ b).length, (a ++ b)[a.length + i] = b[i] := by
  refine ⟨by rw [List.length_append]; omega, ?_⟩
  rw [List.getElem_append_right (by omega)]
  simp
theorem ptr_app (a r : List UInt8) (q : Nat) (hq : q < 16384) : ptrAt (a ++ (ptrB q ++ r)) a.length = q := by
  unfold ptrAt
  have h0 : (a ++ (ptrB q ++ r)).getD a.length 0 = UInt8.ofNat (192 + q / 256) := by rw [List.getD_eq_getElem?_getD, List.getElem?_append_right (by omega)]; simp [ptrB]
  have h1 : (a ++ (ptrB q ++ r)).getD (a.length + 1) 0 = UInt8.ofNat (q % 256) := by rw [List.getD_eq_getElem?_getD, List.getElem?_append_right (by omega)]; simp [ptrB]
  rw [h0, h1, toNat_of (by omega), toNat_of (by omega)]
  omega
/-- A pointer that does not lead back. -/
theorem ptr_bad {a r : List UInt8} {q g : Nat} {o : List UInt8} {x : Option Nat} {R : Option (List UInt8 × Nat)} (hq : q < 16384) (hg : g ≤ q) (h : RAt (a ++ (ptrB q ++ r)) a.length g o x R) : R = none := by
  obtain ⟨h1, _⟩ := get_app a (ptrB q ++ r) 0 (by simp [ptrB])
  have h3 : (a ++ (ptrB q ++ r))[a.length]'h1 = UInt8.ofNat (192 + q / 256) := by
    simp [ptrB]
  refine r_ptr_no h h1 ?_ (.inr (by rw [ptr_app a r q hq]; exact hg))
  rw [h3, toNat_of (by omega)]
  omega

theorem n1 (F r : List UInt8) (q : Nat) (hq : q < 16384) (hk : F.length ≤ q) : nameOf (F ++ (ptrB q ++ r)) F.length = none := ptr_bad hq hk (r_start _ _)
theorem n3 (F : List UInt8) (q : Nat) (hq : q < 16384) (hk : F.length ≤ q) : nameOf (F ++ [1, 97] ++ (ptrB q ++ [])) F.length = none := by
  have h := r_start (F ++ [1, 97] ++ (ptrB q ++ [])) F.length
  have hl : (F ++ [1, 97]).length = F.length + 2 := by simp
  have h1 : F.length < (F ++ [1, 97] ++ (ptrB q ++ [])).length := by simp
  have h2 : (F ++ [1, 97] ++ (ptrB q ++ []))[F.length] = 1 := by
    rw [List.getElem_append_left (by simp), List.getElem_append_right (by omega)]; simp
  have h3 := r_lab h h1 (by rw [h2]; decide) (by rw [h2]; decide) (by rw [h2]; simp [ptrB]) (by simp)
  have e : F.length + 1 + ((F ++ [1, 97] ++ (ptrB q ++ []))[F.length]).toNat = (F ++ [1, 97]).length := by rw [h2, hl]; rfl
  rw [e] at h3
  exact ptr_bad hq hk h3
theorem n5 (F : List UInt8) : nameOf (F ++ [192]) F.length = none := by
  obtain ⟨h1, _⟩ := get_app F [192] 0 (by simp)
  have h3 : (F ++ [192])[F.length]'h1 = 192 := by simp
  exact r_ptr_no (r_start _ _) h1 (by rw [h3]; decide) (.inl (by simp))
theorem n6 (F r : List UInt8) (c : UInt8) (h : 63 < c.toNat) (h' : c.toNat ≤ 191) : nameOf (F ++ c :: r) F.length = none := by
  obtain ⟨h1, _⟩ := get_app F (c :: r) 0 (by simp)
  have h3 : (F ++ c :: r)[F.length]'h1 = c := by simp
  exact r_bad (r_start _ _) h1 (by rw [h3]; exact h) (by rw [h3]; exact h')
theorem n8 (F : List UInt8) : nameOf F F.length = none := r_past (r_start _ _) (Nat.le_refl _)

/-- Name of package comp, where it is known that there is none. -/
theorem no_name (T : ByteArray) (x : Int) (p : Nat) (w : World) (hT : T.size ≤ 100000) (hx : x = (p : Int)) (h : nameOf T.data.toList p = none) :
    Calls Try.prog 9 #[.string T, .int .i64 x] w fun e w' => e = .returned (.tuple #[.string ⟨#[]⟩, .int .i64 0, .int .i64 500]) ∧ Below w.heap.size w w' := by
  subst hx; exact cName_as T p none w (by omega) h

/-- Seventy bytes of nought are made, and become a string. -/
theorem made70 : ∃ Zc : Array Value, (∀ u : World, (Instr.makeSlice 49 (.int .i64 70) (.int .i64 70)).run Try.prog u = .ok (.slice (some ⟨u.heap.size, 0, none⟩) 70 70) (u.alloc (.cells Zc 5))) ∧
    ∀ (g : Nat) (u : World), u.heap[g]? = some (.cells Zc 5 (0, 0)) → (convert 49 9 (.slice (some ⟨g, 0, none⟩) 70 70)).run Try.prog u = .ok (.string (zerosB 70)) u := by
  obtain ⟨i0, hi, hz0, hz1, hz2⟩ := info_parts info5
  refine ⟨((List.replicate 70 (0 : UInt8)).map bv).toArray, fun u => ?_, fun g u hg => ?_⟩
  · have := run_make (P := Try.prog) u 49 5 i0 (.int .u8 0) Try.underlying49 hi hz0 .i64 .i64 70 70 (by decide) (by decide) (by rw [hz2]; decide) (by decide)
    rw [hz1, show (Value.int .u8 0).cells = #[.int .u8 0] from rfl, made_zero] at this
    exact this
  · refine run_convert_bytes_back _ 49 9 5 ⟨g, 0, none⟩ 70 (List.replicate 70 0) Try.underlying49 Try.underlying5 Try.underlying9 fun j hj => ?_
    refine World.news_of_block hg j _ ?_
    simp only [List.getElem?_map, List.getElem?_eq_getElem hj, Option.map_some]
    rfl

set_option maxRecDepth 20000 in
set_option maxHeartbeats 4000000 in
theorem walk (s : ByteArray) (y : Int) (hs : s.size ≤ maxLen) (_ : (Lit.int .i64 y).wf = true) (w : World) :
    Calls Try.prog 6 #[.string s, .int .i64 y] w fun e w' => e = .returned (.bool true) ∧ Below w.heap.size w w' := by
  have hb : Below w.heap.size w w := Below.refl _ _
  have hsl := data_len s
  unfold maxLen at hs
  by_cases h1000 : (1000 : Int) < (s.size : Int)
  · go_enter Try.func6, Try.ntmps6
    go_wp2_with (first
      | (go_at_call 14; go_must (refine (awake_any _).mono ?_); rintro e w0 ⟨rfl, b0⟩; replace hb := next hb b0; clear b0))
    go_ret
    exact ⟨rfl, hb⟩
  · have h1000' : decide ((1000 : Int) < (s.size : Int)) = false := by simpa using h1000
    obtain ⟨i0, hi, hz0, hz1, hz2⟩ := info_parts info5
    have m6 : bits .and .i64 y 63 = y % 64 := mask y 6 (by decide)
    have m7 : bits .and .i64 y 127 = y % 128 := mask y 7 (by decide)
    obtain ⟨j, hj⟩ : ∃ j : Nat, y % 64 = (j : Int) := ⟨(y % 64).toNat, by omega⟩
    obtain ⟨j2, hj2⟩ : ∃ j2 : Nat, y % 128 = (j2 : Int) := ⟨(y % 128).toNat, by omega⟩
    have hj64 : j < 64 := by omega
    have hj128 : j2 < 128 := by omega
    rw [hj] at m6
    rw [hj2] at m7
    clear hj hj2
    obtain ⟨k, hk⟩ : ∃ k, k = s.size := ⟨_, rfl⟩
    have hk1000 : k ≤ 1000 := by omega
    obtain ⟨P1, hP1⟩ : ∃ P : ByteArray, P = ⟨(ptrB k).toArray⟩ := ⟨_, rfl⟩
    obtain ⟨P2, hP2⟩ : ∃ P : ByteArray, P = ⟨(ptrB (k + 2 + j)).toArray⟩ := ⟨_, rfl⟩
    obtain ⟨P3, hP3⟩ : ∃ P : ByteArray, P = ⟨(ptrB (k + 2)).toArray⟩ := ⟨_, rfl⟩
    have l1 : P1.data.toList = ptrB k ++ [] := by rw [hP1]; simp
    have l2 : P2.data.toList = ptrB (k + 2 + j) := by rw [hP2]
    have l3 : P3.data.toList = ptrB (k + 2) ++ [] := by rw [hP3]; simp
    have z1 : P1.size = 2 := by rw [hP1, toArr_size]; simp [ptrB]
    have z2 : P2.size = 2 := by rw [hP2, toArr_size]; simp [ptrB]
    have z3 : P3.size = 2 := by rw [hP3, toArr_size]; simp [ptrB]
    have hkl : s.data.toList.length = k := by rw [hsl, hk]
    obtain ⟨c, hc⟩ : ∃ c : UInt8, (c.toNat : Int) = 64 + (j2 : Int) := ⟨UInt8.ofNat (64 + j2), by rw [toNat_of (by omega)]; omega⟩
    obtain ⟨Q, hQ⟩ : ∃ Q : ByteArray, Q = ⟨#[c, 0]⟩ := ⟨_, rfl⟩
    have zQ : Q.size = 2 := by rw [hQ]; rfl
    have zz := zerosB_size 70
    obtain ⟨Z, hZ⟩ : ∃ Z, Z = zerosB 70 := ⟨_, rfl⟩
    rw [← hZ] at zz
    have C1 : Hid (∀ u, Calls Try.prog 9 #[.string (s ++ P1), .int .i64 (k : Int)] u fun e w' => e = .returned (.tuple #[.string ⟨#[]⟩, .int .i64 0, .int .i64 500]) ∧ Below u.heap.size u w') := fun u =>
      no_name _ _ k u (by rw [ByteArray.size_append]; omega) rfl (by rw [app_list, l1, ← hkl]; exact n1 _ _ _ (by omega) (by omega))
    have C2 : Hid (∀ u, Calls Try.prog 9 #[.string (s ++ P2 ++ Z), .int .i64 (k : Int)] u fun e w' => e = .returned (.tuple #[.string ⟨#[]⟩, .int .i64 0, .int .i64 500]) ∧ Below u.heap.size u w') := fun u =>
      no_name _ _ k u (by rw [ByteArray.size_append, ByteArray.size_append]; omega) rfl (by rw [app_list, app_list, l2, List.append_assoc, ← hkl]; exact n1 _ _ _ (by omega) (by omega))
    have C3 : Hid (∀ u, Calls Try.prog 9 #[.string (s ++ ⟨#[1, 97]⟩ ++ P1), .int .i64 (k : Int)] u fun e w' => e = .returned (.tuple #[.string ⟨#[]⟩, .int .i64 0, .int .i64 500]) ∧ Below u.heap.size u w') := fun u =>
      no_name _ _ k u (by rw [ByteArray.size_append, ByteArray.size_append]; show s.size + 2 + _ ≤ _; omega) rfl (by rw [app_list, app_list, l1, ← hkl]; exact n3 _ _ (by omega) (by omega))
    have C4 : Hid (∀ u, Calls Try.prog 9 #[.string (s ++ ⟨#[1, 97]⟩ ++ P3), .int .i64 (k : Int)] u fun e w' => e = .returned (.tuple #[.string ⟨#[]⟩, .int .i64 0, .int .i64 500]) ∧ Below u.heap.size u w') := fun u =>
      no_name _ _ k u (by rw [ByteArray.size_append, ByteArray.size_append]; show s.size + 2 + _ ≤ _; omega) rfl (by rw [app_list, app_list, l3, ← hkl]; exact n3 _ _ (by omega) (by omega))
    have C5 : Hid (∀ u, Calls Try.prog 9 #[.string (s ++ ⟨#[192]⟩), .int .i64 (k : Int)] u fun e w' => e = .returned (.tuple #[.string ⟨#[]⟩, .int .i64 0, .int .i64 500]) ∧ Below u.heap.size u w') := fun u =>
      no_name _ _ k u (by rw [ByteArray.size_append]; show s.size + 1 ≤ _; omega) rfl (by rw [app_list, ← hkl]; exact n5 _)
    have C6 : Hid (∀ u, Calls Try.prog 9 #[.string (s ++ Q), .int .i64 (k : Int)] u fun e w' => e = .returned (.tuple #[.string ⟨#[]⟩, .int .i64 0, .int .i64 500]) ∧ Below u.heap.size u w') := fun u =>
      no_name _ _ k u (by rw [ByteArray.size_append]; omega) rfl (by rw [app_list, hQ, ← hkl]; exact n6 _ _ _ (by omega) (by omega))
    have C7 : Hid (∀ u, Calls Try.prog 9 #[.string s, .int .i64 (-1 - (j : Int))] u fun e w' => e = .returned (.tuple #[.string ⟨#[]⟩, .int .i64 0, .int .i64 500]) ∧ Below u.heap.size u w') := fun u =>
      cName_neg s _ u (by omega)
    have C8 : Hid (∀ u, Calls Try.prog 9 #[.string s, .int .i64 (k : Int)] u fun e w' => e = .returned (.tuple #[.string ⟨#[]⟩, .int .i64 0, .int .i64 500]) ∧ Below u.heap.size u w') := fun u =>
      no_name _ _ k u (by omega) rfl (by have := n8 s.data.toList; rw [hkl] at this; exact this)
    have Q1 : Hid (∀ u, Calls Try.prog 23 #[.int .i64 (k : Int)] u fun e w' => e = .returned (.string P1) ∧ Below u.heap.size u w') := fun u => pt_as k _ P1 u (by omega) rfl hP1
    have Q2 : Hid (∀ u, Calls Try.prog 23 #[.int .i64 ((k : Int) + 2 + (j : Int))] u fun e w' => e = .returned (.string P2) ∧ Below u.heap.size u w') := fun u => pt_as (k + 2 + j) _ P2 u (by omega) (by omega) hP2
    have Q3 : Hid (∀ u, Calls Try.prog 23 #[.int .i64 ((k : Int) + 2)] u fun e w' => e = .returned (.string P3) ∧ Below u.heap.size u w') := fun u => pt_as (k + 2) _ P3 u (by omega) (by omega) hP3
    have hks : (s.size : Int) = (k : Int) := by omega
    have hsm : s.size ≤ 1000 := by omega
    clear hP1 hP2 hP3 l1 l2 l3 hkl h1000 hsl
    obtain ⟨Zc, hmk, hcv⟩ := made70
    rw [← hZ] at hcv
    have HCV : Hid (∀ (g : Nat) (u : World), u.heap[g]? = some (.cells Zc 5 (0, 0)) → (convert 49 9 (.slice (some ⟨g, 0, none⟩) 70 70)).run Try.prog u = .ok (.string Z) u) := hcv
    have kz1 : ∀ u : World, (convert 49 9 (.slice (some ⟨u.heap.size, 0, none⟩) 70 70)).run Try.prog (u.alloc (.cells Zc 5)) = .ok (.string Z) (u.alloc (.cells Zc 5)) := fun u => hcv _ _ (heap_alloc_new u _)
    have kz2 : ∀ u : World, (convert 49 9 (.slice (some ⟨u.heap.size, 0, none⟩) 70 70)).run Try.prog (u.alloc (.cells Zc 5)).drew = .ok (.string Z) (u.alloc (.cells Zc 5)).drew := fun u => hcv _ _ (heap_alloc_new u _)
    have w4 : IntKind.i64.wrap ((k : Int) + 2) = (k : Int) + 2 := by rw [IntKind.wrap_i64]; omega
    have w5 : IntKind.i64.wrap ((k : Int) + 2 + (j : Int)) = (k : Int) + 2 + (j : Int) := by rw [IntKind.wrap_i64]; omega
    have w6 : IntKind.u8.wrap (64 + (j2 : Int)) = (c.toNat : Int) := by simp [IntKind.wrap, IntKind.bits, IntKind.signed]; omega
    have kq : ∀ u : World, (convert 49 9 (.slice (some ⟨u.heap.size, 0, none⟩) 2 2)).run Try.prog (u.alloc (.cells #[.int .u8 (64 + (j2 : Int)), .int .u8 0] 5)) = .ok (.string Q) (u.alloc (.cells #[.int .u8 (64 + (j2 : Int)), .int .u8 0] 5)) := fun u => by
      have := conv_lit [c, 0] u
      simp only [List.map_cons, List.map_nil, bv, hc] at this
      rw [hQ]
      exact this
    have g1 : s.size + P2.size ≤ 100000 := by omega
    have g2 : (s ++ P2).size + Z.size ≤ 100000 := by rw [ByteArray.size_append]; omega
    clear hcv hZ hQ hk
    go_enter Try.func6, Try.ntmps6
    go_upto_region 8 with (first
      | (go_at_call 14; go_must (refine (awake_any _).mono ?_); rintro e w0 ⟨rfl, b0⟩; replace hb := next hb b0; clear b0)
      | (go_at_call 23; go_must (refine (Q1.out _).mono ?_); rintro e w1 ⟨rfl, b0⟩; replace hb := next hb b0; clear b0)
      | (go_at_call 9; go_must (refine (C1.out _).mono ?_); rintro e w2 ⟨rfl, b0⟩; replace hb := next hb b0; clear b0))
    go_cut [12] (fun x wx => x = .int .i64 500 ∧ Below w.heap.size w wx)
    case first =>
      go_region_held (fun _ => True) (trivial)
        (first
          | (go_at_call 23; refine (Q2.out _).mono ?_; rintro e w3 ⟨rfl, b3⟩; first | (have kz3 := HCV.out w2.heap.size w3 (by rw [b3.block _ (by simp)]; exact heap_alloc_new w2 _); have hb3 : Below w.heap.size w w3 := next (lay hb _).drew b3) | (have hb3 : Below w.heap.size w w3 := next hb.drew b3))
          | (go_at_call 9; refine (C2.out _).mono ?_; rintro e w4 ⟨rfl, b4⟩; have hb4 : Below w.heap.size w w4 := (by first | exact next hb3 b4 | exact next (lay hb3 _) b4)))
      all_goals (go_wp2_with fail; go_meet; exact ⟨rfl, hb4⟩)
    case rest =>
    obtain ⟨rfl, hbc⟩ := hcut
    clear C1 C2 Q2 kz1 kz2 hmk HCV hb
    go_wp2_with (first
      | (go_at_call 23; have _t := Q1; go_must (refine (Q1.out _).mono ?_); rintro e w1 ⟨rfl, b0⟩; replace hbc := next hbc b0; clear b0 Q1 _t)
      | (go_at_call 23; have _t := Q3; go_must (refine (Q3.out _).mono ?_); rintro e w1 ⟨rfl, b0⟩; replace hbc := next hbc b0; clear b0 Q3 _t)
      | (go_at_call 9; have _t := C3; go_must (refine (C3.out _).mono ?_); rintro e w3 ⟨rfl, b0⟩; replace hbc := next hbc b0; clear b0 C3 _t)
      | (go_at_call 9; have _t := C4; go_must (refine (C4.out _).mono ?_); rintro e w4 ⟨rfl, b0⟩; replace hbc := next hbc b0; clear b0 C4 _t)
      | (go_at_call 9; have _t := C5; go_must (refine (C5.out _).mono ?_); rintro e w5 ⟨rfl, b0⟩; replace hbc := next hbc b0; clear b0 C5 _t)
      | (go_at_call 9; have _t := C6; go_must (refine (C6.out _).mono ?_); rintro e w6 ⟨rfl, b0⟩; replace hbc := next (by first | exact hbc | exact lay hbc _) b0; clear b0 C6 _t)
      | (go_at_call 9; have _t := C7; go_must (refine (C7.out _).mono ?_); rintro e w7 ⟨rfl, b0⟩; replace hbc := next hbc b0; clear b0 C7 _t)
      | (go_at_call 9; have _t := C8; go_must (refine (C8.out _).mono ?_); rintro e w8 ⟨rfl, b0⟩; replace hbc := next hbc b0; clear b0 C8 _t)
      | (go_at_call 13; refine (num_any _ _).mono ?_; rintro e w' ⟨rfl, hw⟩; obtain rfl := hw.symm))
    go_ret
    exact ⟨rfl, hbc⟩

theorem own : ownKnob Try.prog.godebug = none := by kernel_rfl

set_option maxRecDepth 100000 in
theorem lifted (os : Os) (started : os.Started) (H : Type) (enc : TypeId × Value → H) :
    ReturnsInHanded {} Try.checked os 6 .any (Rows.compLoopsSpec.pre6 enc Try.prog Try.f6 Rows.compLoopsRow.domain false) (Rows.compLoopsSpec.post enc Try.prog Try.f6 false true false false) := by
  refine returnsInHanded_of_change (C := Try.checked) own started (by kernel_rfl) Try.func6
    (ChangeSpec.witness6 (enc := enc) (C := Try.checked) false ⟨#[], #[.string ByteArray.empty, .int .i64 0], []⟩ 8 (by kernel_rfl) (by kernel_rfl) (by kernel_rfl) (by kernel_rfl)) ?_
  intro W base args ds gs before hval0 hW _ _
  have hval : ∀ (j : Nat) t v, Try.f6.params[j]? = some t → args[j]? = some v → Value.okWide Try.prog W .any base t v := hval0
  have hW' := hW
  obtain ⟨p, q, hA0, hV, rfl, hfz, hnd⟩ := hW
  have hA : DataW.TrodAll enc Try.prog W 0 (fun _ => true) true Try.f6.params.toList args.toList ds p := hA0
  rw [Try.params6] at hA hval
  obtain ⟨v0, vs0, d0, ds0, p0, q0, hargs, rfl, rfl, h0, r0⟩ := trodAll_cons hA
  obtain ⟨v1, vs1, d1, ds1, p1, q1, rfl, rfl, rfl, h1, r1⟩ := trodAll_cons r0
  obtain ⟨rfl, rfl, rfl⟩ := trodAll_nil r1
  obtain rfl : args = #[v0, v1] := by cases args; simp_all
  obtain ⟨rfl, rfl⟩ := trodVars_none hV
  obtain ⟨a0, rfl, rfl, rfl, w0⟩ := open_string Try.underlying9 (hval 0 9 v0 rfl rfl) h0
  obtain ⟨a1, rfl, rfl, rfl, w1⟩ := open_int Try.underlying3 (hval 1 3 v1 rfl rfl) h1
  clear hA0 hval0
  simp only [List.append_nil] at hW'
  refine (walk a0 a1 w0 w1 W ).mono fun e W' ⟨he, bel⟩ => ?_
  subst he
  exact ⟨_, rfl, _, _, _, [], [], [], hW', trodAll_mk1 (shut_bool Try.underlying4 _), (trodAll_cons_mk (shut_string Try.underlying9 w0) (trodAll_cons_mk (shut_int Try.underlying3 w1) trodAll_mk0)), rfl, bel.frame _, fun h => by cases h⟩

/-- The statement. -/
theorem proved : Rows.CompLoopsSaid :=
  OpenClaim.holds_of_wide 6 Try.f6 rfl rfl rfl rfl rfl rfl rfl ⟨rfl, rfl, rfl, rfl, rfl⟩ rfl rfl rfl rfl rfl (by kernel_rfl) Try.func6 (by kernel_rfl)
    (of_decide_eq_true (by kernel_rfl)) (by unfold Func.isWrapper; first | (rw [if_pos (by decide +kernel)]; kernel_rfl) | (rw [if_neg (by decide +kernel)]; exact ⟨rfl, rfl⟩))
    (fun os started H enc _ => lifted os started H enc)
#print axioms proved


end Go.Proofs.Ytpfbmemejajbjaa.compLoops
