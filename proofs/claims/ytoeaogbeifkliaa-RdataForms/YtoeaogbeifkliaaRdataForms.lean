/- RdataForms holds: which data may be for each type. -/
import Derived.Test.YtoeaogbeifkliaaRdH
namespace Go.Proofs.Ytoeaogbeifkliaa.rdataForms
open Go.ChangeShapes Go.WideShapes Go.ChangeAt Go.RowKit
open Go.ChangeMaps (open_string shut_string)
open Pl

/-- So many bytes of 0. -/
def zs (k : Nat) : ByteArray := ⟨(List.replicate k (0 : UInt8)).toArray⟩
theorem zs_list (k : Nat) : (zs k).data.toList = List.replicate k 0 := by simp [zs]
theorem zs_size (k : Nat) : (zs k).size = k := by show (List.replicate k (0 : UInt8)).toArray.size = k; simp
/-- The cells in which they are made. -/
def zc (k : Nat) : Array Value := ((List.replicate k (0 : UInt8)).map bv).toArray

theorem make_run (k : Nat) (hk : k ≤ 1000) (x : Int) (hx : x = (k : Int)) (u : World) : (Instr.makeSlice 52 (.int .i64 x) (.int .i64 x)).run Try.prog u = .ok (.slice (some ⟨u.heap.size, 0, none⟩) k k) (u.alloc (.cells (zc k) 5)) := by
  subst hx
  obtain ⟨i0, hi, hz0, hz1, hz2⟩ := info_parts info5
  have hmk := run_make (P := Try.prog) u 52 5 i0 (.int .u8 0) Try.underlying52 hi hz0 .i64 .i64 (k : Int) (k : Int) (by omega) (by omega) (by rw [hz2]; omega) (by omega)
  rw [hz1, show (Value.int .u8 0).cells = #[.int .u8 0] from rfl, made_zero] at hmk
  unfold zc
  simpa using hmk
theorem conv_run (k : Nat) (u : World) : (convert 52 9 (.slice (some ⟨u.heap.size, 0, none⟩) k k)).run Try.prog (u.alloc (.cells (zc k) 5)) = .ok (.string (zs k)) (u.alloc (.cells (zc k) 5)) := by
  have := conv_lit (List.replicate k 0) u
  rw [List.length_replicate] at this
  exact this
theorem lit2 (x : Int) (b : UInt8) (hb : x = (b.toNat : Int)) (u : World) : (convert 52 9 (.slice (some ⟨u.heap.size, 0, none⟩) 1 1)).run Try.prog (u.alloc (.cells #[.int .u8 x] 5)) = .ok (.string ⟨#[b]⟩) (u.alloc (.cells #[.int .u8 x] 5)) := by
  have := conv_lit [b] u
  simp only [List.map_cons, List.map_nil, bv, ← hb] at this
  exact this

theorem tq_more (l : List UInt8) (k : Nat) (h : k ≤ l.length) : tq k l = tq 0 (l.drop k) := by rw [tq_drop, if_pos h]
theorem text_yes (k : Nat) (hk : k ≤ 63) : mayD 16 ((⟨#[UInt8.ofNat k]⟩ : ByteArray) ++ zs k).data.toList = true := by
  have hb : (UInt8.ofNat k).toNat = k := by rw [UInt8.toNat_ofNat']; omega
  rw [may_16, app_list, zs_list]
  have h1 : tq 0 ((⟨#[UInt8.ofNat k]⟩ : ByteArray).data.toList ++ List.replicate k 0) = true := by
    show tq (UInt8.ofNat k).toNat (List.replicate k 0) = true
    rw [hb, tq_more _ _ (by simp), List.drop_of_length_le (by simp)]; rfl
  unfold texts
  rw [h1]
  simp; omega
theorem text_no (k : Nat) (hk : k ≤ 63) : mayD 16 ((⟨#[UInt8.ofNat (k + 1)]⟩ : ByteArray) ++ zs k).data.toList = false := by
  have hb : (UInt8.ofNat (k + 1)).toNat = k + 1 := by rw [UInt8.toNat_ofNat']; omega
  rw [may_16, app_list, zs_list]
  have h1 : tq 0 ((⟨#[UInt8.ofNat (k + 1)]⟩ : ByteArray).data.toList ++ List.replicate k 0) = false := by
    show tq (UInt8.ofNat (k + 1)).toNat (List.replicate k 0) = false
    rw [hb, tq_drop, if_neg (by simp)]
  unfold texts
  rw [h1]
  simp
theorem mx_ab (h : ByteArray) : mayD 15 ((⟨#[97, 98]⟩ : ByteArray) ++ h).data.toList = isName h.data.toList := by
  rw [may_15, app_list]
  have e : ((⟨#[97, 98]⟩ : ByteArray).data.toList ++ h.data.toList).drop 2 = h.data.toList := rfl
  rw [e]
  cases hn : isName h.data.toList with
  | false => simp
  | true =>
    have := name_ne hn
    rw [data_len] at this
    simp; omega
theorem soa_zeros (h : ByteArray) (hn : isName h.data.toList = true) : mayD 6 (h ++ h ++ zs 20).data.toList = true := by
  rw [may_6, app_list, app_list, List.append_assoc, soa_names hn hn, if_pos (by rw [zs_list]; simp)]; rfl
theorem soa_one (h : ByteArray) (hn : isName h.data.toList = true) : mayD 6 h.data.toList = false := by
  rw [may_6]
  have h1 := cut_name hn []
  rw [List.append_nil] at h1
  have h2 : cutL (h.data.toList.drop h.data.toList.length) = none := by rw [List.drop_of_length_le (Nat.le_refl _)]; rfl
  rw [soa_cut2 h1 h2]; rfl
theorem far_yes (r : Int) (l : List UInt8) (h0 : 0 ≤ r) (h1 : r < 1024) (hl : l.length ≤ 1000) : mayD (1000 + r) l = true := by
  rw [may_o (by unfold Other; omega)]; simp; omega

set_option maxRecDepth 20000 in
set_option maxHeartbeats 4000000 in
theorem walk_short (t z : Int) (h : ByteArray) (K : Nat) (r : Int) (B : Bool) (w : World) (hs : h.size ≤ 300) (hB : isName h.data.toList = B) (hK : bits .and .i64 z 63 = (K : Int)) (hK63 : K ≤ 63) (hr : bits .and .i64 t 1023 = r) (hr0 : 0 ≤ r) (hr1 : r < 1024) :
    Calls Try.prog 5 #[.int .i64 t, .int .i64 z, .string h] w fun e w' => e = .returned (.bool true) ∧ Below w.heap.size w w' := by
  have hm : h.size ≤ maxLen := by unfold maxLen; omega
  have h300 : decide ((300 : Int) < (h.size : Int)) = false := by simp; omega
  have mk1 := make_run K (by omega) (K : Int) rfl
  have cv1 := conv_run K
  have mk2 := make_run 20 (by omega) 20 rfl
  have cv2 := conv_run 20
  have hw1 : IntKind.u8.wrap (K : Int) = (K : Int) := by simp [IntKind.wrap, IntKind.bits, IntKind.signed]; omega
  have hw2 : IntKind.u8.wrap ((K : Int) + 1) = (K : Int) + 1 := by simp [IntKind.wrap, IntKind.bits, IntKind.signed]; omega
  have lt1 := lit2 (K : Int) (UInt8.ofNat K) (by rw [UInt8.toNat_ofNat']; omega)
  have lt2 := lit2 ((K : Int) + 1) (UInt8.ofNat (K + 1)) (by rw [UInt8.toNat_ofNat']; omega)
  obtain ⟨T1, hT1⟩ : ∃ T, ((K : Int) == 4) = T := ⟨_, rfl⟩
  obtain ⟨T2, hT2⟩ : ∃ T, ((K : Int) == 16) = T := ⟨_, rfl⟩
  have y1 : mayD 1 (zs K).data.toList = T1 := by rw [may_1, zs_list, ← hT1, Bool.eq_iff_iff]; simp; omega
  have y2 : mayD 28 (zs K).data.toList = T2 := by rw [may_28, zs_list, ← hT2, Bool.eq_iff_iff]; simp; omega
  have y3 := (may_n (t := 2) (by omega) h.data.toList).trans hB
  have y4 := (may_n (t := 5) (by omega) h.data.toList).trans hB
  have y5 := (may_n (t := 12) (by omega) h.data.toList).trans hB
  have y6 := (mx_ab h).trans hB
  have y7 := text_yes K hK63
  have y8 := text_no K hK63
  have hzs := zs_size K
  have hz20 := zs_size 20
  have y9 := far_yes r (zs K ++ h).data.toList hr0 hr1 (by rw [data_len, ByteArray.size_append, hzs]; omega)
  have y10 : mayD (-r) (zs K).data.toList = false := may_none (.inl (by omega)) _
  have y11 : mayD (65536 + r) (zs K).data.toList = false := may_none (.inr (by omega)) _
  obtain ⟨Z, hZ⟩ : ∃ Z, Z = zs K := ⟨_, rfl⟩
  obtain ⟨Y, hY⟩ : ∃ Y, Y = zs 20 := ⟨_, rfl⟩
  obtain ⟨A, hA⟩ : ∃ A : ByteArray, A = ⟨#[97, 98]⟩ := ⟨_, rfl⟩
  have zA : A.size = 2 := by rw [hA]; rfl
  obtain ⟨B1, hB1⟩ : ∃ B1 : ByteArray, B1 = ⟨#[UInt8.ofNat K]⟩ := ⟨_, rfl⟩
  obtain ⟨B2, hB2⟩ : ∃ B2 : ByteArray, B2 = ⟨#[UInt8.ofNat (K + 1)]⟩ := ⟨_, rfl⟩
  have zB1 : B1.size = 1 := by rw [hB1]; rfl
  have zB2 : B2.size = 1 := by rw [hB2]; rfl
  have y12 : B = true → mayD 6 (h ++ h ++ zs 20).data.toList = true := fun e => soa_zeros h (hB.trans e)
  have y13 : B = true → mayD 6 h.data.toList = false := fun e => soa_one h (hB.trans e)
  rw [← hZ] at y1 y2 y7 y8 y9 y10 y11 hzs cv1
  rw [← hY] at cv2 hz20 y12
  rw [← hB1] at lt1 y7
  rw [← hB2] at lt2 y8
  clear hZ hY hB1 hB2 hA
  have s1 : Z.size ≤ maxLen := by unfold maxLen; omega
  have s2 : (⟨#[97, 98]⟩ : ByteArray).size + h.size ≤ 1000 := by have : (⟨#[97, 98]⟩ : ByteArray).size = 2 := rfl; omega
  have s3 : h.size + h.size ≤ 1000 := by omega
  have s4 : (h ++ h).size + Y.size ≤ 1000 := by rw [ByteArray.size_append]; omega
  have s5 : B1.size + Z.size ≤ 1000 := by omega
  have s6 : B2.size + Z.size ≤ 1000 := by omega
  have s7 : Z.size + h.size ≤ 1000 := by omega
  have m2 : ((⟨#[97, 98]⟩ : ByteArray) ++ h).size ≤ maxLen := by rw [ByteArray.size_append]; unfold maxLen; omega
  have m4 : (h ++ h ++ Y).size ≤ maxLen := by rw [ByteArray.size_append]; unfold maxLen; omega
  have m5 : (B1 ++ Z).size ≤ maxLen := by rw [ByteArray.size_append]; unfold maxLen; omega
  have m6 : (B2 ++ Z).size ≤ maxLen := by rw [ByteArray.size_append]; unfold maxLen; omega
  have m7 : (Z ++ h).size ≤ maxLen := by rw [ByteArray.size_append]; unfold maxLen; omega
  have y14 : mayD 15 (⟨#[97]⟩ : ByteArray).data.toList = false := by decide
  have hb : Below w.heap.size w w := Below.refl _ _
  have HM : Hid (h.size ≤ maxLen) := hm
  cases B with
  | false =>
    clear y12 y13
    go_enter Try.func5, Try.ntmps5
    simp only [List.append]
    go_wp2_with (first
      | (go_at_call 27; go_must (refine (awake_any _).mono ?_); rintro e w0 ⟨rfl, b0⟩; replace hb := next hb b0; clear b0)
      | (go_at_call 28; go_must (refine (refMay_as h _ _ HM.out hB).mono ?_); rintro e w1 ⟨rfl, b0⟩; replace hb := next (lay hb _) b0; clear b0)
      | (go_at_call_of 17 (#[Value.int IntKind.i64 1, Value.string Z]); go_must (refine (may4_as _ _ T1 _ s1 y1).mono ?_); rintro e wn ⟨rfl, b1⟩; replace hb : Below w.heap.size w wn := (by first | exact next hb (below_drew b1) | exact next (lay hb _) (below_drew b1)); clear b1)
      | (go_at_call_of 17 (#[Value.int IntKind.i64 28, Value.string Z]); go_must (refine (may4_as _ _ T2 _ s1 y2).mono ?_); rintro e wn ⟨rfl, b1⟩; replace hb : Below w.heap.size w wn := (by first | exact next hb (below_drew b1) | exact next (lay hb _) (below_drew b1)); clear b1)
      | (go_at_call_of 17 (#[Value.int IntKind.i64 2, Value.string h]); go_must (refine (may4_as _ _ _ _ HM.out y3).mono ?_); rintro e wn ⟨rfl, b1⟩; replace hb : Below w.heap.size w wn := (by first | exact next hb (below_drew b1) | exact next (lay hb _) (below_drew b1)); clear b1)
      | (go_at_call_of 17 (#[Value.int IntKind.i64 5, Value.string h]); go_must (refine (may4_as _ _ _ _ HM.out y4).mono ?_); rintro e wn ⟨rfl, b1⟩; replace hb : Below w.heap.size w wn := (by first | exact next hb (below_drew b1) | exact next (lay hb _) (below_drew b1)); clear b1)
      | (go_at_call_of 17 (#[Value.int IntKind.i64 12, Value.string h]); go_must (refine (may4_as _ _ _ _ HM.out y5).mono ?_); rintro e wn ⟨rfl, b1⟩; replace hb : Below w.heap.size w wn := (by first | exact next hb (below_drew b1) | exact next (lay hb _) (below_drew b1)); clear b1)
      | (go_at_call_of 17 (#[Value.int IntKind.i64 15, Value.string ((⟨#[97, 98]⟩ : ByteArray) ++ h)]); go_must (refine (may4_as _ _ _ _ m2 y6).mono ?_); rintro e wn ⟨rfl, b1⟩; replace hb : Below w.heap.size w wn := (by first | exact next hb (below_drew b1) | exact next (lay hb _) (below_drew b1)); clear b1)
      | (go_at_call_of 17 (#[Value.int IntKind.i64 15, Value.string ⟨#[97]⟩]); go_must (refine (may4_as _ _ _ _ (max9 (by decide)) y14).mono ?_); rintro e wn ⟨rfl, b1⟩; replace hb : Below w.heap.size w wn := (by first | exact next hb (below_drew b1) | exact next (lay hb _) (below_drew b1)); clear b1)
      | (go_at_call_of 17 (#[Value.int IntKind.i64 16, Value.string (B1 ++ Z)]); go_must (refine (may4_as _ _ _ _ m5 y7).mono ?_); rintro e wn ⟨rfl, b1⟩; replace hb : Below w.heap.size w wn := (by first | exact next hb (below_drew b1) | exact next (lay hb _) (below_drew b1)); clear b1)
      | (go_at_call_of 17 (#[Value.int IntKind.i64 16, Value.string (B2 ++ Z)]); go_must (refine (may4_as _ _ _ _ m6 y8).mono ?_); rintro e wn ⟨rfl, b1⟩; replace hb : Below w.heap.size w wn := (by first | exact next hb (below_drew b1) | exact next (lay hb _) (below_drew b1)); clear b1)
      | (go_at_call_of 17 (#[Value.int IntKind.i64 (1000 + r), Value.string (Z ++ h)]); go_must (refine (may4_as _ _ _ _ m7 y9).mono ?_); rintro e wn ⟨rfl, b1⟩; replace hb : Below w.heap.size w wn := (by first | exact next hb (below_drew b1) | exact next (lay hb _) (below_drew b1)); clear b1)
      | (go_at_call_of 17 (#[Value.int IntKind.i64 (-r), Value.string Z]); go_must (refine (may4_as _ _ _ _ s1 y10).mono ?_); rintro e wn ⟨rfl, b1⟩; replace hb : Below w.heap.size w wn := (by first | exact next hb (below_drew b1) | exact next (lay hb _) (below_drew b1)); clear b1)
      | (go_at_call 17; go_must (refine (may4_as (65536 + r) Z false _ s1 y11).mono ?_); rintro e wn ⟨rfl, b1⟩; replace hb : Below w.heap.size w wn := (by first | exact next hb (below_drew b1) | exact next (lay hb _) (below_drew b1)); clear b1))
    go_ret
    exact ⟨rfl, hb⟩
  | true =>
    replace y12 := y12 rfl
    replace y13 := y13 rfl
    go_enter Try.func5, Try.ntmps5
    simp only [List.append]
    go_wp2_with (first
      | (go_at_call 27; go_must (refine (awake_any _).mono ?_); rintro e w0 ⟨rfl, b0⟩; replace hb := next hb b0; clear b0)
      | (go_at_call 28; go_must (refine (refMay_as h _ _ HM.out hB).mono ?_); rintro e w1 ⟨rfl, b0⟩; replace hb := next (lay hb _) b0; clear b0)
      | (go_at_call_of 17 (#[Value.int IntKind.i64 1, Value.string Z]); go_must (refine (may4_as _ _ T1 _ s1 y1).mono ?_); rintro e wn ⟨rfl, b1⟩; replace hb : Below w.heap.size w wn := (by first | exact next hb (below_drew b1) | exact next (lay hb _) (below_drew b1)); clear b1)
      | (go_at_call_of 17 (#[Value.int IntKind.i64 28, Value.string Z]); go_must (refine (may4_as _ _ T2 _ s1 y2).mono ?_); rintro e wn ⟨rfl, b1⟩; replace hb : Below w.heap.size w wn := (by first | exact next hb (below_drew b1) | exact next (lay hb _) (below_drew b1)); clear b1)
      | (go_at_call_of 17 (#[Value.int IntKind.i64 2, Value.string h]); go_must (refine (may4_as _ _ _ _ HM.out y3).mono ?_); rintro e wn ⟨rfl, b1⟩; replace hb : Below w.heap.size w wn := (by first | exact next hb (below_drew b1) | exact next (lay hb _) (below_drew b1)); clear b1)
      | (go_at_call_of 17 (#[Value.int IntKind.i64 5, Value.string h]); go_must (refine (may4_as _ _ _ _ HM.out y4).mono ?_); rintro e wn ⟨rfl, b1⟩; replace hb : Below w.heap.size w wn := (by first | exact next hb (below_drew b1) | exact next (lay hb _) (below_drew b1)); clear b1)
      | (go_at_call_of 17 (#[Value.int IntKind.i64 12, Value.string h]); go_must (refine (may4_as _ _ _ _ HM.out y5).mono ?_); rintro e wn ⟨rfl, b1⟩; replace hb : Below w.heap.size w wn := (by first | exact next hb (below_drew b1) | exact next (lay hb _) (below_drew b1)); clear b1)
      | (go_at_call_of 17 (#[Value.int IntKind.i64 15, Value.string ((⟨#[97, 98]⟩ : ByteArray) ++ h)]); go_must (refine (may4_as _ _ _ _ m2 y6).mono ?_); rintro e wn ⟨rfl, b1⟩; replace hb : Below w.heap.size w wn := (by first | exact next hb (below_drew b1) | exact next (lay hb _) (below_drew b1)); clear b1)
      | (go_at_call_of 17 (#[Value.int IntKind.i64 15, Value.string ⟨#[97]⟩]); go_must (refine (may4_as _ _ _ _ (max9 (by decide)) y14).mono ?_); rintro e wn ⟨rfl, b1⟩; replace hb : Below w.heap.size w wn := (by first | exact next hb (below_drew b1) | exact next (lay hb _) (below_drew b1)); clear b1)
      | (go_at_call_of 17 (#[Value.int IntKind.i64 6, Value.string (h ++ h ++ Y)]); go_must (refine (may4_as _ _ _ _ m4 y12).mono ?_); rintro e wn ⟨rfl, b1⟩; replace hb : Below w.heap.size w wn := (by first | exact next hb (below_drew b1) | exact next (lay hb _) (below_drew b1)); clear b1)
      | (go_at_call_of 17 (#[Value.int IntKind.i64 6, Value.string h]); go_must (refine (may4_as _ _ _ _ HM.out y13).mono ?_); rintro e wn ⟨rfl, b1⟩; replace hb : Below w.heap.size w wn := (by first | exact next hb (below_drew b1) | exact next (lay hb _) (below_drew b1)); clear b1)
      | (go_at_call_of 17 (#[Value.int IntKind.i64 16, Value.string (B1 ++ Z)]); go_must (refine (may4_as _ _ _ _ m5 y7).mono ?_); rintro e wn ⟨rfl, b1⟩; replace hb : Below w.heap.size w wn := (by first | exact next hb (below_drew b1) | exact next (lay hb _) (below_drew b1)); clear b1)
      | (go_at_call_of 17 (#[Value.int IntKind.i64 16, Value.string (B2 ++ Z)]); go_must (refine (may4_as _ _ _ _ m6 y8).mono ?_); rintro e wn ⟨rfl, b1⟩; replace hb : Below w.heap.size w wn := (by first | exact next hb (below_drew b1) | exact next (lay hb _) (below_drew b1)); clear b1)
      | (go_at_call_of 17 (#[Value.int IntKind.i64 (1000 + r), Value.string (Z ++ h)]); go_must (refine (may4_as _ _ _ _ m7 y9).mono ?_); rintro e wn ⟨rfl, b1⟩; replace hb : Below w.heap.size w wn := (by first | exact next hb (below_drew b1) | exact next (lay hb _) (below_drew b1)); clear b1)
      | (go_at_call_of 17 (#[Value.int IntKind.i64 (-r), Value.string Z]); go_must (refine (may4_as _ _ _ _ s1 y10).mono ?_); rintro e wn ⟨rfl, b1⟩; replace hb : Below w.heap.size w wn := (by first | exact next hb (below_drew b1) | exact next (lay hb _) (below_drew b1)); clear b1)
      | (go_at_call 17; go_must (refine (may4_as (65536 + r) Z false _ s1 y11).mono ?_); rintro e wn ⟨rfl, b1⟩; replace hb : Below w.heap.size w wn := (by first | exact next hb (below_drew b1) | exact next (lay hb _) (below_drew b1)); clear b1))
    go_ret
    exact ⟨rfl, hb⟩

theorem walk (t z : Int) (h : ByteArray) (_ : (Lit.int .i64 t).wf = true) (_ : (Lit.int .i64 z).wf = true) (_hm : h.size ≤ maxLen) (w : World) :
    Calls Try.prog 5 #[.int .i64 t, .int .i64 z, .string h] w fun e w' => e = .returned (.bool true) ∧ Below w.heap.size w w' := by
  by_cases hs : h.size ≤ 300
  · have m6 : bits .and .i64 z 63 = z % 64 := mask z 6 (by decide)
    obtain ⟨K, hK⟩ := Int.eq_ofNat_of_zero_le (a := z % 64) (Int.emod_nonneg _ (by decide))
    have hK63 : K ≤ 63 := by have := Int.emod_lt_of_pos z (b := 64) (by decide); omega
    exact walk_short t z h K (t % 1024) _ w hs rfl (m6.trans hK) hK63 (mask t 10 (by decide)) (Int.emod_nonneg _ (by decide)) (Int.emod_lt_of_pos _ (by decide))
  · have h300 : (300 : Int) < (h.size : Int) := by omega
    unfold maxLen at _hm
    go_enter Try.func5, Try.ntmps5
    go_wp2_with (first
      | (go_at_call 27; go_must (refine (awake_any _).mono ?_); rintro e w0 ⟨rfl, b0⟩))
    go_ret
    exact ⟨rfl, b0⟩

theorem own : ownKnob Try.prog.godebug = none := by kernel_rfl

set_option maxRecDepth 100000 in
theorem lifted (os : Os) (started : os.Started) (H : Type) (enc : TypeId × Value → H) :
    ReturnsInHanded {} Try.checked os 5 .any (Rows.rdataFormsSpec.pre6 enc Try.prog Try.f5 Rows.rdataFormsRow.domain false) (Rows.rdataFormsSpec.post enc Try.prog Try.f5 false true false false) := by
  refine returnsInHanded_of_change (C := Try.checked) own started (by kernel_rfl) Try.func5
    (ChangeSpec.witness6 (enc := enc) (C := Try.checked) false ⟨#[], #[.int .i64 0, .int .i64 0, .string ByteArray.empty], []⟩ 8 (by kernel_rfl) (by kernel_rfl) (by kernel_rfl) (by kernel_rfl)) ?_
  intro W base args ds gs before hval0 hW _ _
  have hval : ∀ (j : Nat) t v, Try.f5.params[j]? = some t → args[j]? = some v → Value.okWide Try.prog W .any base t v := hval0
  have hW' := hW
  obtain ⟨p, q, hA0, hV, rfl, hfz, hnd⟩ := hW
  have hA : DataW.TrodAll enc Try.prog W 0 (fun _ => true) true Try.f5.params.toList args.toList ds p := hA0
  rw [Try.params5] at hA hval
  obtain ⟨v0, vs0, d0, ds0, p0, q0, hargs, rfl, rfl, h0, r0⟩ := trodAll_cons hA
  obtain ⟨v1, vs1, d1, ds1, p1, q1, rfl, rfl, rfl, h1, r1⟩ := trodAll_cons r0
  obtain ⟨v2, vs2, d2, ds2, p2, q2, rfl, rfl, rfl, h2, r2⟩ := trodAll_cons r1
  obtain ⟨rfl, rfl, rfl⟩ := trodAll_nil r2
  obtain rfl : args = #[v0, v1, v2] := by cases args; simp_all
  obtain ⟨rfl, rfl⟩ := trodVars_none hV
  obtain ⟨a0, rfl, rfl, rfl, w0⟩ := open_int Try.underlying3 (hval 0 3 v0 rfl rfl) h0
  obtain ⟨a1, rfl, rfl, rfl, w1⟩ := open_int Try.underlying3 (hval 1 3 v1 rfl rfl) h1
  obtain ⟨a2, rfl, rfl, rfl, w2⟩ := open_string Try.underlying9 (hval 2 9 v2 rfl rfl) h2
  clear hA0 hval0
  simp only [List.append_nil] at hW'
  refine (walk a0 a1 a2 w0 w1 w2 W ).mono fun e W' ⟨he, bel⟩ => ?_
  subst he
  exact ⟨_, rfl, _, _, _, [], [], [], hW', trodAll_mk1 (shut_bool Try.underlying4 _), (trodAll_cons_mk (shut_int Try.underlying3 w0) (trodAll_cons_mk (shut_int Try.underlying3 w1) (trodAll_cons_mk (shut_string Try.underlying9 w2) trodAll_mk0))), rfl, bel.frame _, fun h => by cases h⟩

/-- The statement. -/
theorem proved : Rows.RdataFormsSaid :=
  OpenClaim.holds_of_wide 5 Try.f5 rfl rfl rfl rfl rfl rfl rfl ⟨rfl, rfl, rfl, rfl, rfl⟩ rfl rfl rfl rfl rfl (by kernel_rfl) Try.func5 (by kernel_rfl)
    (of_decide_eq_true (by kernel_rfl)) (by unfold Func.isWrapper; first | (rw [if_pos (by decide +kernel)]; kernel_rfl) | (rw [if_neg (by decide +kernel)]; exact ⟨rfl, rfl⟩))
    (fun os started H enc _ => lifted os started H enc)
#print axioms proved

end Go.Proofs.Ytoeaogbeifkliaa.rdataForms
