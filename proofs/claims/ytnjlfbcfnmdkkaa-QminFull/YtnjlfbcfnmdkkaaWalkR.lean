/- What last, Same, Above, Parent, Last and Child of the document's answers give, for every argument. -/
import Derived.Test.YtnjlfbcfnmdkkaaWalkQ
import Derived.Deep.RegionWith
namespace Go.Proofs.Ytnjlfbcfnmdkkaa
open Go.RowKit
open Pl

set_option maxRecDepth 20000 in
set_option maxHeartbeats 1000000 in
theorem refL_any (s t : ByteArray) (k : Nat) (w : World) (h : isName s.data.toList = true) (hk : k ≤ (labs s.data.toList).length) (ht : t.data.toList = lastN s.data.toList k) :
    Calls Try.prog 26 #[.string s, .int .i64 (k : Int)] w fun e w' => e = .returned (.string t) ∧ Below w.heap.size w w' := by
  have h255 := name_size h
  have hs : s.size ≤ maxLen := by unfold maxLen; omega
  have h127 := few h
  obtain ⟨m, hm⟩ : ∃ m, m = (labs s.data.toList).length := ⟨_, rfl⟩
  have HM : Hid (m = (labs s.data.toList).length) := hm
  have hkm : k ≤ m := by omega
  have hm127 : m ≤ 127 := by omega
  obtain ⟨P, hP⟩ : ∃ P, P = pos (labs s.data.toList) (m - k) := ⟨_, rfl⟩
  have HP : Hid (P = pos (labs s.data.toList) (m - k)) := hP
  have hPs : P ≤ s.size := by have := pos_in h (m - k); omega
  have hTe : s.extract P s.size = t := by
    apply ByteArray.ext
    apply Array.toList_inj.1
    rw [ht, hP, hm, last_ext h]
  have HTE : Hid (s.extract P s.size = t) := hTe
  clear hm hP hTe ht
  go_enter Try.func26, Try.ntmps26
  go_wp2_with (go_at_call 27; refine (places_any _ _ hs).mono ?_; rintro e w1 ⟨v, rfl, hb1, hp⟩; obtain ⟨gp, cap, qs, rfl, hpl, hown⟩ := hp h; have hq := places_pos h hpl; have hql : qs.length = m + 1 := hq.1.trans (by rw [HM.out]); rw [hql] at hown ⊢; have hc : w1.cell? ⟨gp, m - k, none⟩ = some (.int .i64 (P : Int)) := (by rw [hown.cellAt (m - k) (by omega)]; have hj' : m - k < qs.length := (by omega); rw [HP.out, ← hq.2 (m - k) (by have := HM.out; omega)]; simp [hj', iv]); obtain ⟨j, hj⟩ : ∃ j, j = m - k := ⟨_, rfl⟩; rw [← hj] at hc; have hjk : (m : Int) + 1 - 1 - (k : Int) = (j : Int) := (by omega); have hjk2 : (m : Int) - (k : Int) = (j : Int) := (by omega); have hjm : j ≤ m := (by omega); clear hp hpl hown hq hql hj)
  go_ret
  exact ⟨ret_str HTE.out, hb1⟩

theorem refFold_as (s t : ByteArray) (w : World) (hs : s.size ≤ maxLen) (h : foldR s.data.toList = t.data.toList) :
    Calls Try.prog 16 #[.string s] w fun e w' => e = .returned (.string t) ∧ Below w.heap.size w w' := by
  have := refFold_any s w hs
  rw [h] at this
  exact this
theorem refCount_as (s : ByteArray) (n : Nat) (w : World) (hs : s.size ≤ maxLen) (h : cnt s.data.toList = n) :
    Calls Try.prog 18 #[.string s] w fun e w' => e = .returned (.int .i64 n) ∧ Below w.heap.size w w' := by rw [← h]; exact refCount_any s w hs
theorem cnt_labs {l : List UInt8} (h : isName l = true) : cnt l = (labs l).length := (enc_of h).2.2.1

theorem list_test (a b : ByteArray) : (a.toList == b.toList) = decide (a.data.toList = b.data.toList) := by
  rw [ByteArray.toList_eq, ByteArray.toList_eq, Bool.eq_iff_iff]; simp

set_option maxRecDepth 20000 in
set_option maxHeartbeats 1000000 in
theorem refSame_any (a b : ByteArray) (w : World) (ha : a.size ≤ maxLen) (hb : b.size ≤ maxLen) :
    Calls Try.prog 17 #[.string a, .string b] w fun e w' => e = .returned (.bool (sameB a.data.toList b.data.toList)) ∧ Below w.heap.size w w' := by
  have hbel : Below w.heap.size w w := Below.refl _ _
  cases h1 : isName a.data.toList with
  | false =>
    have HR : Hid (false = sameB a.data.toList b.data.toList) := by unfold Hid sameB; rw [h1]; rfl
    go_enter Try.func17, Try.ntmps17
    go_wp2_with (go_at_call 19; refine (refMay_as a false _ ha h1).mono ?_; rintro e w1 ⟨rfl, b1⟩; replace hbel := next hbel b1; clear b1)
    go_ret
    exact ⟨ret_bool HR.out, hbel⟩
  | true =>
    cases h2 : isName b.data.toList with
    | false =>
      have HR : Hid (false = sameB a.data.toList b.data.toList) := by unfold Hid sameB; rw [h1, h2]; rfl
      have t1 : True := trivial
      have t2 : True := trivial
      go_enter Try.func17, Try.ntmps17
      go_wp2_with (first
        | (go_at_call 19; have _t := t1; refine (refMay_as a true _ ha h1).mono ?_; rintro e w1 ⟨rfl, b1⟩; replace hbel := next hbel b1; clear b1 t1)
        | (go_at_call 19; have _t := t2; refine (refMay_as b false _ hb h2).mono ?_; rintro e w1 ⟨rfl, b1⟩; replace hbel := next hbel b1; clear b1 t2))
      go_ret
      exact ⟨ret_bool HR.out, hbel⟩
    | true =>
      obtain ⟨F, hF⟩ : ∃ F : ByteArray, foldR a.data.toList = F.data.toList := ⟨⟨(foldR a.data.toList).toArray⟩, by simp⟩
      obtain ⟨G, hG⟩ : ∃ G : ByteArray, foldR b.data.toList = G.data.toList := ⟨⟨(foldR b.data.toList).toArray⟩, by simp⟩
      have HF : Hid (foldR a.data.toList = F.data.toList) := hF
      have HG : Hid (foldR b.data.toList = G.data.toList) := hG
      have HR : Hid ((F.toList == G.toList) = sameB a.data.toList b.data.toList) := by
        unfold Hid sameB
        rw [list_test, ← hF, ← hG, h1, h2, foldR_yes h1, foldR_yes h2]
        simp
      clear hF hG
      have t1 : True := trivial
      have t2 : True := trivial
      have t3 : True := trivial
      have t4 : True := trivial
      go_enter Try.func17, Try.ntmps17
      go_wp2_with (first
        | (go_at_call 19; have _t := t1; refine (refMay_as a true _ ha h1).mono ?_; rintro e w1 ⟨rfl, b1⟩; replace hbel := next hbel b1; clear b1 t1)
        | (go_at_call 19; have _t := t2; refine (refMay_as b true _ hb h2).mono ?_; rintro e w1 ⟨rfl, b1⟩; replace hbel := next hbel b1; clear b1 t2)
        | (go_at_call 16; have _t := t3; refine (refFold_as a F _ ha HF.out).mono ?_; rintro e w1 ⟨rfl, b1⟩; replace hbel := next hbel b1; clear b1 t3)
        | (go_at_call 16; have _t := t4; refine (refFold_as b G _ hb HG.out).mono ?_; rintro e w1 ⟨rfl, b1⟩; replace hbel := next hbel b1; clear b1 t4))
      go_ret
      exact ⟨ret_bool HR.out, hbel⟩
theorem refSame_as (a b : ByteArray) (v : Bool) (w : World) (ha : a.size ≤ maxLen) (hb : b.size ≤ maxLen) (h : sameB a.data.toList b.data.toList = v) :
    Calls Try.prog 17 #[.string a, .string b] w fun e w' => e = .returned (.bool v) ∧ Below w.heap.size w w' := by rw [← h]; exact refSame_any a b w ha hb

set_option maxRecDepth 20000 in
set_option maxHeartbeats 1000000 in
theorem refAbove_any (a b : ByteArray) (w : World) (ha : a.size ≤ maxLen) (hb : b.size ≤ maxLen) :
    Calls Try.prog 15 #[.string a, .string b] w fun e w' => e = .returned (.bool (aboveB a.data.toList b.data.toList)) ∧ Below w.heap.size w w' := by
  have hbel : Below w.heap.size w w := Below.refl _ _
  cases h1 : isName a.data.toList with
  | false =>
    have HR : Hid (false = aboveB a.data.toList b.data.toList) := by unfold Hid aboveB; rw [h1]; rfl
    go_enter Try.func15, Try.ntmps15
    go_wp2_with (go_at_call 19; refine (refMay_as a false _ ha h1).mono ?_; rintro e w1 ⟨rfl, b1⟩; replace hbel := next hbel b1; clear b1)
    go_ret
    exact ⟨ret_bool HR.out, hbel⟩
  | true =>
    cases h2 : isName b.data.toList with
    | false =>
      have HR : Hid (false = aboveB a.data.toList b.data.toList) := by unfold Hid aboveB; rw [h1, h2]; rfl
      have t1 : True := trivial
      have t2 : True := trivial
      go_enter Try.func15, Try.ntmps15
      go_wp2_with (first
        | (go_at_call 19; have _t := t1; refine (refMay_as a true _ ha h1).mono ?_; rintro e w1 ⟨rfl, b1⟩; replace hbel := next hbel b1; clear b1 t1)
        | (go_at_call 19; have _t := t2; refine (refMay_as b false _ hb h2).mono ?_; rintro e w1 ⟨rfl, b1⟩; replace hbel := next hbel b1; clear b1 t2))
      go_ret
      exact ⟨ret_bool HR.out, hbel⟩
    | true =>
      obtain ⟨n, hn⟩ : ∃ n, n = (labs a.data.toList).length := ⟨_, rfl⟩
      obtain ⟨m, hm⟩ : ∃ m, m = (labs b.data.toList).length := ⟨_, rfl⟩
      have HCA : Hid (cnt a.data.toList = n) := by unfold Hid; rw [hn]; exact cnt_labs h1
      have HCB : Hid (cnt b.data.toList = m) := by unfold Hid; rw [hm]; exact cnt_labs h2
      have h127 : n ≤ 127 := by rw [hn]; exact few h1
      have h127m : m ≤ 127 := by rw [hm]; exact few h2
      have t1 : True := trivial
      have t2 : True := trivial
      have t3 : True := trivial
      have t4 : True := trivial
      have t5 : True := trivial
      by_cases hnm : n ≤ m
      · obtain ⟨T, hT⟩ : ∃ T : ByteArray, T.data.toList = lastN b.data.toList n := ⟨⟨(lastN b.data.toList n).toArray⟩, by simp⟩
        have HT : Hid (T.data.toList = lastN b.data.toList n) := hT
        have HTS : Hid (T.size ≤ maxLen) := by
          have h5 := name_size h2
          unfold Hid maxLen
          rw [← data_len, hT, last_drop h2, List.length_drop, data_len]
          omega
        have HK : Hid (n ≤ (labs b.data.toList).length) := by unfold Hid; omega
        have HR : Hid (sameB a.data.toList T.data.toList = aboveB a.data.toList b.data.toList) := by
          unfold Hid
          rw [hT]
          unfold sameB aboveB
          rw [h1, h2, (last_name h2 n (by omega)).1, ← hn, ← hm]
          simp [hnm]
        clear hn hm hT
        have hnm2 : (n : Int) ≤ (m : Int) := by omega
        go_enter Try.func15, Try.ntmps15
        go_wp2_with (first
          | (go_at_call 19; have _t := t1; refine (refMay_as a true _ ha h1).mono ?_; rintro e w1 ⟨rfl, b1⟩; replace hbel := next hbel b1; clear b1 t1)
          | (go_at_call 19; have _t := t2; refine (refMay_as b true _ hb h2).mono ?_; rintro e w1 ⟨rfl, b1⟩; replace hbel := next hbel b1; clear b1 t2)
          | (go_at_call_of 18 (#[Value.string a]); refine (refCount_as a n _ ha HCA.out).mono ?_; rintro e w1 ⟨rfl, b1⟩; replace hbel := next hbel b1; clear b1)
          | (go_at_call_of 18 (#[Value.string b]); refine (refCount_as b m _ hb HCB.out).mono ?_; rintro e w1 ⟨rfl, b1⟩; replace hbel := next hbel b1; clear b1)
          | (go_at_call 26; refine (refL_any b T n _ h2 HK.out HT.out).mono ?_; rintro e w1 ⟨rfl, b1⟩; replace hbel := next hbel b1; clear b1)
          | (go_at_call 17; refine (refSame_as a T _ _ ha HTS.out HR.out).mono ?_; rintro e w1 ⟨rfl, b1⟩; replace hbel := next hbel b1; clear b1))
        go_ret
        exact ⟨rfl, hbel⟩
      · have HR : Hid (false = aboveB a.data.toList b.data.toList) := (above_few (by omega)).symm
        clear hn hm
        have hnm2 : decide (n ≤ m) = false := by simpa using hnm
        go_enter Try.func15, Try.ntmps15
        go_wp2_with (first
          | (go_at_call 19; have _t := t1; refine (refMay_as a true _ ha h1).mono ?_; rintro e w1 ⟨rfl, b1⟩; replace hbel := next hbel b1; clear b1 t1)
          | (go_at_call 19; have _t := t2; refine (refMay_as b true _ hb h2).mono ?_; rintro e w1 ⟨rfl, b1⟩; replace hbel := next hbel b1; clear b1 t2)
          | (go_at_call_of 18 (#[Value.string a]); refine (refCount_as a n _ ha HCA.out).mono ?_; rintro e w1 ⟨rfl, b1⟩; replace hbel := next hbel b1; clear b1)
          | (go_at_call_of 18 (#[Value.string b]); refine (refCount_as b m _ hb HCB.out).mono ?_; rintro e w1 ⟨rfl, b1⟩; replace hbel := next hbel b1; clear b1))
        go_ret
        exact ⟨ret_bool HR.out, hbel⟩

end Go.Proofs.Ytnjlfbcfnmdkkaa
