/- What Compare of package rel gives, for every argument. -/
import Derived.Test.YtphhljbeaklikaaXP1
namespace Go.Proofs.Ytphhljbeaklikaa
open Go.RowKit
open Pl

theorem drew_cell {w u : World} (h : ∃ m, u = w.drewN m) (a : Addr) : u.cell? a = w.cell? a := by obtain ⟨m, rfl⟩ := h; rfl
theorem drew_trans {a b c : World} (h : ∃ m, b = a.drewN m) (k : ∃ m, c = b.drewN m) : ∃ m, c = a.drewN m := by
  obtain ⟨m, rfl⟩ := k
  exact drew_more h

theorem lab_ext {s : ByteArray} (h : isName s.data.toList = true) (i : Nat) (hi : i < (labs s.data.toList).length) : (s.extract (pos (labs s.data.toList) i + 1) (pos (labs s.data.toList) (i + 1))).data.toList = (labs s.data.toList)[i] := by
  obtain ⟨e1, _, _, _⟩ := enc_of h
  have := pos_label (labs s.data.toList) i hi
  rw [← e1] at this
  rw [ext_list]
  exact this

/-- The k-th label from the end, as the places tell it. -/
theorem label_of (s : ByteArray) (w : World) (g n k : Nat) (h : isName s.data.toList = true) (hn : n = (labs s.data.toList).length) (hk1 : 1 ≤ k) (hk : k ≤ n) (hp : PlAt w g (labs s.data.toList)) :
    ∃ t : ByteArray, t.data.toList = (labs s.data.toList)[(labs s.data.toList).length - k]'(by omega) ∧ t.size ≤ maxLen ∧ ∀ u : World, (∃ m, u = w.drewN m) →
      Calls Try.prog 55 #[.pointer (some ⟨g, 0, none⟩), .string s, .int .i64 (k : Int)] u fun e w' => e = .returned (.string t) ∧ ∃ m, w' = u.drewN m := by
  subst hn
  have h255 := name_size h
  have hf := few h
  have hi : (labs s.data.toList).length - k < (labs s.data.toList).length := by omega
  have hs := pos_succ (labs s.data.toList) _ hi
  have hq := pos_in h ((labs s.data.toList).length - k + 1)
  refine ⟨_, lab_ext h _ hi, by unfold maxLen; simp; omega, fun u hu => ?_⟩
  refine plLabel_any s _ u g (labs s.data.toList).length k _ _ hk1 hk hf (by rw [drew_cell hu]; exact hp.1) (by rw [drew_cell hu]; exact hp.2 _ (by omega)) (by rw [drew_cell hu]; exact hp.2 _ (by omega)) (by omega) (by omega) (by omega) rfl

set_option maxRecDepth 20000 in
set_option maxHeartbeats 2000000 in
theorem compare_core (a b A B : ByteArray) (w : World) (hA : isName A.data.toList = true) (hB : isName B.data.toList = true)
    (hoa : ∀ u : World, Calls Try.prog 52 #[.string a] u fun e w' => e = .returned (.string A) ∧ w' = u) (hob : ∀ u : World, Calls Try.prog 52 #[.string b] u fun e w' => e = .returned (.string B) ∧ w' = u) :
    Calls Try.prog 44 #[.string a, .string b] w fun e w' => e = .returned (.int .i64 (cmpN A.data.toList B.data.toList)) ∧ Below w.heap.size w w' := by
  have HOA : Hid (∀ u : World, Calls Try.prog 52 #[.string a] u fun e w' => e = .returned (.string A) ∧ w' = u) := hoa
  have HOB : Hid (∀ u : World, Calls Try.prog 52 #[.string b] u fun e w' => e = .returned (.string B) ∧ w' = u) := hob
  clear hoa hob
  obtain ⟨Z, hz, hZs⟩ := zero47
  obtain ⟨n, hn⟩ : ∃ n, n = (labs A.data.toList).length := ⟨_, rfl⟩
  obtain ⟨m, hm⟩ : ∃ m, m = (labs B.data.toList).length := ⟨_, rfl⟩
  have HN : Hid (n = (labs A.data.toList).length) := hn
  have HM : Hid (m = (labs B.data.toList).length) := hm
  have h127 : n ≤ 127 := by rw [hn]; exact few hA
  have h127m : m ≤ 127 := by rw [hm]; exact few hB
  obtain ⟨M, hmin⟩ : ∃ M : Nat, (if m < n then (m : Int) else (n : Int)) = (M : Int) := by
    by_cases h : m < n
    · exact ⟨m, by rw [if_pos h]⟩
    · exact ⟨n, by rw [if_neg h]⟩
  have HMM : Hid ((M = n ∨ M = m) ∧ M ≤ n ∧ M ≤ m) := by
    unfold Hid
    split at hmin <;> omega
  have hM127 : M ≤ 127 := by have := HMM.out; omega
  have t1 : True := trivial
  have t2 : True := trivial
  have t3 : True := trivial
  have t4 : True := trivial
  clear hn hm
  go_enter Try.func44, Try.ntmps44
  go_wp2_with (first
    | (go_at_call 52; have _t := t1; go_must (refine (HOA.out _).mono ?_); rintro e w' ⟨rfl, hw⟩; obtain rfl := hw.symm; clear t1)
    | (go_at_call 52; have _t := t2; go_must (refine (HOB.out _).mono ?_); rintro e w' ⟨rfl, hw⟩; obtain rfl := hw.symm; clear t2)
    | (go_at_call 53; have _t := t3; refine (gather_any _ _ hA).mono ?_; rintro e w1 ⟨C, rfl, hbel1, hF⟩; have HF : Hid (Fill (labs A.data.toList) (labs A.data.toList).length C) := hF; clear hF t3)
    | (go_at_call 53; have _t := t4; refine (gather_any _ _ hB).mono ?_; rintro e w2 ⟨D, rfl, hbel2, hG⟩; have HG : Hid (Fill (labs B.data.toList) (labs B.data.toList).length D) := hG; clear hG t4)
    | (refine wpList_storePl _ rfl (.tmp 5) (.tmp 14) rfl w2.heap.size Z C rfl rfl (two_first _ _) hZs HF.out.1 HF.out.all ?_; intro w3 h1 h2 h3; go_must (refine wpList_storePl _ rfl (.tmp 6) (.tmp 16) rfl (w2.heap.size + 1) Z D rfl rfl (two_left h2) hZs HG.out.1 HG.out.all ?_); intro w4 k1 k2 k3; have hst := two_stored (next hbel1 hbel2) h1 h2 h3 k2; have HPA : Hid (PlAt w4 w2.heap.size (labs A.data.toList)) := fill_at hst.1 HF.out; have HPB : Hid (PlAt w4 (w2.heap.size + 1) (labs B.data.toList)) := fill_at k1 HG.out; have HBEL : Hid (Below w.heap.size w w4) := hst.2; clear hst k1 k2 k3 h1 h2 h3))
  clear hbel1 hbel2 hz hZs HF HG
  go_loopw [7] (fun i wr => ∃ (k : Nat), 1 ≤ k ∧ k ≤ M + 1 ∧ i = .int .i64 k ∧ Hid (∃ m, wr = w4.drewN m) ∧ Hid (cmpN A.data.toList B.data.toList = lexG (lexG cB) ((fl A.data.toList).drop (k - 1)) ((fl B.data.toList).drop (k - 1)))) (fun i _ => M + 1 - (intOf i).toNat)
  case atStart => exact ⟨1, Nat.le_refl _, by omega, rfl, ⟨0, rfl⟩, cmp_start _ _⟩
  case round =>
    obtain ⟨k, hk1, hkM, rfl, hdr, hc⟩ := hrel
    have hca : wr.cell? ⟨w2.heap.size, 128, none⟩ = some (.int .i64 (n : Int)) := by rw [drew_cell hdr.out, HN.out]; exact HPA.out.1
    have hcb : wr.cell? ⟨w2.heap.size + 1, 128, none⟩ = some (.int .i64 (m : Int)) := by rw [drew_cell hdr.out, HM.out]; exact HPB.out.1
    by_cases hkl : k ≤ M
    · have hkl2 : (k : Int) ≤ (M : Int) := by omega
      have hkn : k ≤ n := by have := HMM.out; omega
      have hkm : k ≤ m := by have := HMM.out; omega
      obtain ⟨ta, hta, htas, hla⟩ := label_of A w4 w2.heap.size n k hA HN.out hk1 hkn HPA.out
      obtain ⟨tb, htb, htbs, hlb⟩ := label_of B w4 (w2.heap.size + 1) m k hB HM.out hk1 hkm HPB.out
      have HLA : Hid (∀ u : World, (∃ m, u = w4.drewN m) → Calls Try.prog 55 #[.pointer (some ⟨w2.heap.size, 0, none⟩), .string A, .int .i64 (k : Int)] u fun e w' => e = .returned (.string ta) ∧ ∃ m, w' = u.drewN m) := hla
      have HLB : Hid (∀ u : World, (∃ m, u = w4.drewN m) → Calls Try.prog 55 #[.pointer (some ⟨w2.heap.size + 1, 0, none⟩), .string B, .int .i64 (k : Int)] u fun e w' => e = .returned (.string tb) ∧ ∃ m, w' = u.drewN m) := hlb
      clear hla hlb
      have t1 : True := trivial
      have t2 : True := trivial
      by_cases hz : ord ta.data.toList tb.data.toList = 0
      · have HX : Hid (cmpN A.data.toList B.data.toList = lexG (lexG cB) ((fl A.data.toList).drop (k + 1 - 1)) ((fl B.data.toList).drop (k + 1 - 1))) := cmp_next hc.out hk1 (by have := HN.out; omega) (by have := HM.out; omega) (by rw [← hta, ← htb]; exact hz)
        clear hta htb
        go_wp2_with (first
          | (go_at_call 55; have _t := t1; go_must (refine (HLA.out _ hdr.out).mono ?_); rintro e w5 ⟨rfl, hd5⟩; clear t1; have HD5 := drew_trans hdr.out hd5; clear hd5; have HE5 : Hid (∃ m, w5 = w4.drewN m) := HD5; clear HD5)
          | (go_at_call 55; have _t := t2; go_must (refine (HLB.out _ HE5.out).mono ?_); rintro e w6 ⟨rfl, hd6⟩; clear t2; have HD6 := drew_trans HE5.out hd6; clear hd6; have HE6 : Hid (∃ m, w6 = w4.drewN m) := HD6; clear HD6)
          | (go_at_call 54; go_must (refine (order_any _ _ _ htas htbs).mono ?_); rintro e w7 ⟨rfl, hd7⟩; have HD7 := drew_trans HE6.out hd7; clear hd7; have HE7 : Hid (∃ m, w7 = w4.drewN m) := HD7; clear HD7))
        go_roundw
        case rel => exact ⟨k + 1, by omega, by omega, by go_num, HE7, HX⟩
        case measure => simp [intOf]; omega
      · have HX : Hid (ord ta.data.toList tb.data.toList = cmpN A.data.toList B.data.toList) := by
          have := cmp_here hc.out hk1 (by have := HN.out; omega) (by have := HM.out; omega) (by rw [← hta, ← htb]; exact hz)
          rw [← hta, ← htb] at this
          exact this
        have hz2 : (ord ta.data.toList tb.data.toList != 0) = true := by simpa using hz
        clear hta htb hz
        go_wp2_with (first
          | (go_at_call 55; have _t := t1; go_must (refine (HLA.out _ hdr.out).mono ?_); rintro e w5 ⟨rfl, hd5⟩; clear t1; have HD5 := drew_trans hdr.out hd5; clear hd5; have HE5 : Hid (∃ m, w5 = w4.drewN m) := HD5; clear HD5)
          | (go_at_call 55; have _t := t2; go_must (refine (HLB.out _ HE5.out).mono ?_); rintro e w6 ⟨rfl, hd6⟩; clear t2; have HD6 := drew_trans HE5.out hd6; clear hd6; have HE6 : Hid (∃ m, w6 = w4.drewN m) := HD6; clear HD6)
          | (go_at_call 54; go_must (refine (order_any _ _ _ htas htbs).mono ?_); rintro e w7 ⟨rfl, hd7⟩; have HD7 := drew_trans HE6.out hd7; clear hd7; have HE7 : Hid (∃ m, w7 = w4.drewN m) := HD7; clear HD7))
        go_ret
        exact ⟨ret_int HX.out, next HBEL.out (below_drew HE7.out)⟩
    · have HX : Hid (sgn (n : Int) (m : Int) = cmpN A.data.toList B.data.toList) := by
        unfold Hid
        rw [HN.out, HM.out]
        exact cmp_end hc.out (by have := HMM.out; have := HN.out; have := HM.out; omega) (by have := HMM.out; have := HN.out; omega) (by have := HMM.out; have := HM.out; omega)
      have hkl2 : ¬ (k : Int) ≤ (M : Int) := by omega
      go_wp2_with (go_at_call 45; go_must (refine (cmpI_any _ _ _).mono ?_); rintro e w' ⟨rfl, hw⟩; obtain rfl := hw.symm)
      go_ret
      exact ⟨ret_int HX.out, next HBEL.out (below_drew hdr.out)⟩

theorem compare_any (a b : ByteArray) (w : World) (ha : a.size ≤ maxLen) (hb : b.size ≤ maxLen) :
    Calls Try.prog 44 #[.string a, .string b] w fun e w' => e = .returned (.int .i64 (cmpN a.data.toList b.data.toList)) ∧ Below w.heap.size w w' := by
  have key : ∀ s : ByteArray, s.size ≤ maxLen → ∃ S : ByteArray, S.data.toList = orR s.data.toList ∧ ∀ u : World, Calls Try.prog 52 #[.string s] u fun e w' => e = .returned (.string S) ∧ w' = u := by
    intro s hs
    cases h : isName s.data.toList with
    | true => exact ⟨s, by unfold orR; rw [if_pos h], fun u => orRoot_yes s u hs h⟩
    | false => exact ⟨⟨#[0]⟩, by unfold orR; rw [if_neg (by rw [h]; simp)], fun u => orRoot_no s u hs h⟩
  obtain ⟨A, eA, hA⟩ := key a ha
  obtain ⟨B, eB, hB⟩ := key b hb
  have := compare_core a b A B w (by rw [eA]; exact orR_name _) (by rw [eB]; exact orR_name _) hA hB
  rw [eA, eB, orR_cmp] at this
  exact this

end Go.Proofs.Ytphhljbeaklikaa
