/- What the document's Data (names written out) gives, for every argument. -/
import Derived.Test.YtbffnicfibfceaaXP8
namespace Go.Proofs.Ytbffnicfibfceaa
open Go.RowKit
open Pl

/-- Names, one behind the other, as the document reads them: none may end behind q. -/
def nmsQ (l : List UInt8) (q : Nat) : Nat → Nat → List UInt8 → Option (List UInt8 × Nat)
  | P, 0, O => some (O, P)
  | P, c + 1, O => match nameOf l P with
    | none => none
    | some (r, b) => if q < b then none else nmsQ l q b c (O ++ r)
/-- The document's last look at data of so many names. -/
def finQ (l : List UInt8) (q c : Nat) (t : Int) : Option (List UInt8 × Nat) → Option (List UInt8)
  | none => none
  | some (O, P) => if mayD t (O ++ (l.drop P).take (q - P)) = true ∧ ¬ (0 < c ∧ t ≠ 6 ∧ P ≠ q) then some (O ++ (l.drop P).take (q - P)) else none
theorem q_none {l : List UInt8} {q P c : Nat} {O : List UInt8} (h : nameOf l P = none) : nmsQ l q P (c + 1) O = none := by rw [nmsQ, h]
theorem q_far {l : List UInt8} {q P c b : Nat} {O r : List UInt8} (h : nameOf l P = some (r, b)) (hb : q < b) : nmsQ l q P (c + 1) O = none := by rw [nmsQ, h]; exact if_pos hb
theorem q_some {l : List UInt8} {q P c b : Nat} {O r : List UInt8} (h : nameOf l P = some (r, b)) (hb : ¬ q < b) : nmsQ l q P (c + 1) O = nmsQ l q b c (O ++ r) := by rw [nmsQ, h]; exact if_neg hb
theorem take_none (l : List UInt8) (P q : Nat) (h : q ≤ P) : (l.drop P).take (q - P) = [] := by rw [show q - P = 0 from by omega]; rfl

theorem data_doc_n {l : List UInt8} {p n : Nat} {t : Int} (h : t = 2 ∨ t = 5 ∨ t = 12) : dataOf l p n t = finQ l (p + n) 1 t (nmsQ l (p + n) p 1 []) := by
  rw [data_n h]
  have ht : t ≠ 6 := by omega
  cases hn : nameOf l p with
  | none => rw [q_none hn]; rfl
  | some z =>
    obtain ⟨r, b⟩ := z
    by_cases hb : p + n < b
    · rw [q_far hn hb, dtN, if_neg (by omega)]; rfl
    · rw [q_some hn hb, dtN, nmsQ, finQ]
      by_cases he : b = p + n
      · rw [if_pos he, if_pos]
        · rw [take_none _ _ _ (by omega)]; simp
        · rw [take_none _ _ _ (by omega), may_n h]
          refine ⟨by simpa using (nameOf_some hn).1, fun hh => hh.2.2 he⟩
      · rw [if_neg he, if_neg (fun hh => hh.2 ⟨by omega, ht, he⟩)]
theorem data_doc_15 {l : List UInt8} {p n : Nat} (h2 : 2 ≤ n) (hpn : p + n ≤ l.length) : dataOf l p n 15 = finQ l (p + n) 1 15 (nmsQ l (p + n) (p + 2) 1 ((l.drop p).take 2)) := by
  rw [data_15, if_neg (by omega)]
  cases hn : nameOf l (p + 2) with
  | none => rw [q_none hn]; rfl
  | some z =>
    obtain ⟨r, b⟩ := z
    by_cases hb : p + n < b
    · rw [q_far hn hb, dtN, if_neg (by omega)]; rfl
    · rw [q_some hn hb, dtN, nmsQ, finQ]
      by_cases he : b = p + n
      · rw [if_pos he, if_pos]
        · rw [take_none _ _ _ (by omega)]; simp
        · rw [take_none _ _ _ (by omega), may_15]
          have hl : ((l.drop p).take 2).length = 2 := by rw [List.length_take, List.length_drop]; omega
          have hne := name_ne (nameOf_some hn).1
          have hd : ((l.drop p).take 2 ++ r ++ []).drop 2 = r := by
            rw [List.append_nil]
            have := List.drop_left (l₁ := (l.drop p).take 2) (l₂ := r)
            rw [hl] at this; exact this
          refine ⟨?_, fun hh => hh.2.2 he⟩
          rw [hd, (nameOf_some hn).1, List.append_nil, List.length_append, hl]
          simp; omega
      · rw [if_neg he, if_neg (fun hh => hh.2 ⟨by omega, by decide, he⟩)]
theorem data_doc_6 {l : List UInt8} {p n : Nat} (hpn : p + n ≤ l.length) : dataOf l p n 6 = finQ l (p + n) 2 6 (nmsQ l (p + n) p 2 []) := by
  rw [data_6]
  cases h1 : nameOf l p with
  | none => rw [q_none h1]; rfl
  | some z =>
    obtain ⟨r, b⟩ := z
    rw [dtS]
    by_cases hb : p + n < b
    · rw [q_far h1 hb]
      cases h2 : nameOf l b with
      | none => rfl
      | some z =>
        obtain ⟨r2, b2⟩ := z
        have := (nameOf_some h2).2.2
        rw [dtS2, if_neg (by omega)]; rfl
    · rw [q_some h1 hb]
      cases h2 : nameOf l b with
      | none => rw [q_none h2]; rfl
      | some z =>
        obtain ⟨r2, b2⟩ := z
        rw [dtS2]
        by_cases hb2 : p + n < b2
        · rw [q_far h2 hb2, if_neg (by omega)]; rfl
        · rw [q_some h2 hb2, nmsQ, finQ]
          have hm : mayD 6 ([] ++ r ++ r2 ++ (l.drop b2).take (p + n - b2)) = decide (b2 + 20 = p + n) := by
            rw [may_6, List.nil_append, List.append_assoc, soa_names (nameOf_some h1).1 (nameOf_some h2).1]
            have hl : ((l.drop b2).take (p + n - b2)).length = p + n - b2 := by rw [List.length_take, List.length_drop]; omega
            rw [hl]
            by_cases e : b2 + 20 = p + n
            · rw [if_pos (by omega)]; simp [e]
            · rw [if_neg (by omega)]; simp [e]
          rw [hm]
          by_cases e : b2 + 20 = p + n
          · rw [if_pos e, if_pos ⟨by simpa using e, fun hh => hh.2.1 rfl⟩, show p + n - b2 = 20 from by omega]; simp
          · rw [if_neg e, if_neg (fun hh => e (by simpa using hh.1))]
theorem data_doc_o {l : List UInt8} {p n : Nat} {t : Int} (h1 : ¬ (t = 2 ∨ t = 5 ∨ t = 12)) (h2 : t ≠ 15) (h3 : t ≠ 6) : dataOf l p n t = finQ l (p + n) 0 t (nmsQ l (p + n) p 0 []) := by
  rw [data_o h1 h2 h3, nmsQ, finQ, show p + n - p = n from by omega, List.nil_append]
  by_cases hm : mayD t ((l.drop p).take n) = true
  · rw [if_pos hm, if_pos ⟨hm, fun hh => by omega⟩]
  · rw [if_neg hm, if_neg (fun hh => hm hh.1)]

theorem rName_as (s : ByteArray) (p : Nat) (R : Option (List UInt8 × Nat)) (w : World) (hs : s.size ≤ 140737488355328) (h : nameOf s.data.toList p = R) :
    Calls Try.prog 44 #[.string s, .int .i64 (p : Int)] w fun e w' => e = .returned (nmV R) ∧ Below w.heap.size w w' := by rw [← h]; exact rName_any s p w hs

set_option maxRecDepth 20000 in
set_option maxHeartbeats 2000000 in
theorem rData_any (s : ByteArray) (p n : Nat) (t : Int) (w : World) (hs : s.size ≤ 140737488351232) (hpn : p + n ≤ s.size) :
    Calls Try.prog 45 #[.string s, .int .i64 (p : Int), .int .i64 (n : Int), .int .i64 t] w fun e w' => e = .returned (dtV (dataOf s.data.toList p n t)) ∧ Below w.heap.size w w' := by
  have hl := data_len s
  obtain ⟨R, hR⟩ : ∃ R, R = dataOf s.data.toList p n t := ⟨_, rfl⟩
  rw [← hR]
  have hs0 : s.size ≤ 140737488355328 := by omega
  have hb : Below w.heap.size w w := Below.refl _ _
  have t1 : decide ((p : Int) < 0) = false := by simp
  have t2 : decide ((n : Int) < 0) = false := by simp
  have t3 : decide (s.size < p) = false := by simp; omega
  have t4 : decide ((s.size : Int) - (p : Int) < (n : Int)) = false := by simp; omega
  by_cases h1 : t = 2 ∨ t = 5 ∨ t = 12
  · have HR0 : Hid (R = finQ s.data.toList (p + n) 1 t (nmsQ s.data.toList (p + n) p (1 - 0) (⟨#[]⟩ : ByteArray).data.toList)) := by unfold Hid; rw [hR]; exact data_doc_n h1
    have ht6 : (t != 6) = true := by rcases h1 with rfl | rfl | rfl <;> rfl
    have ht6n : Hid (t ≠ 6) := by unfold Hid; omega
    have hP0 : p ≤ p + n := by omega
    have hO0 : (⟨#[]⟩ : ByteArray).size ≤ 2 + 255 * 0 := by decide
    clear hR
    have key : (t == 2) = true ∨ ((t == 2) = false ∧ (t == 5) = true) ∨ ((t == 2) = false ∧ (t == 5) = false ∧ (t == 12) = true) := by rcases h1 with rfl | rfl | rfl <;> simp
    clear h1
    replace hs := hs0
    rcases key with k1 | ⟨k1, k2⟩ | ⟨k1, k2, k3⟩
    all_goals
      go_enter Try.func45, Try.ntmps45
      go_wp2
      go_loopw [10, 11, 13] (fun o fr i wr => ∃ (k P : Nat) (O : ByteArray), k ≤ 1 ∧ o = .string O ∧ fr = .int .i64 (P : Int) ∧ i = .int .i64 (k : Int) ∧ P ≤ p + n ∧ O.size ≤ 2 + 255 * k ∧ Hid (R = finQ s.data.toList (p + n) 1 t (nmsQ s.data.toList (p + n) P (1 - k) O.data.toList)) ∧ Below w.heap.size w wr) (fun _ _ i _ => 1 - (intOf i).toNat)
      case atStart => exact ⟨0, p, ⟨#[]⟩, Nat.zero_le _, rfl, by go_num, rfl, hP0, hO0, HR0, hb⟩
      case round =>
        clear hb HR0
        obtain ⟨k, P, O, hk, rfl, rfl, rfl, hP, hO, HR, hb⟩ := hrel
        by_cases hkc : k < 1
        · have hki : (k : Int) < 1 := by omega
          have hstep : 1 - k = (1 - (k + 1)) + 1 := by omega
          cases hn : nameOf s.data.toList P with
          | none =>
            have HN : Hid (R = none) := by unfold Hid; rw [HR.out, hstep, q_none hn]; rfl
            have HNM : Hid (nameOf s.data.toList P = none) := hn
            clear hn hstep
            go_wp2_with (go_at_call 44; go_must (refine (rName_as s P none _ hs HNM.out).mono ?_); rintro e w1 ⟨rfl, b1⟩; unfold nmV; replace hb := next hb b1; clear b1)
            go_ret2
            exact ⟨ret_dt HN.out rfl, hb⟩
          | some rb =>
            obtain ⟨r, b⟩ := rb
            have hr255 := (name_some (nameOf_some hn).1).1
            have HNM : Hid (nameOf s.data.toList P = some (r, b)) := hn
            have hcall := fun u => rName_as s P (some (r, b)) u hs HNM.out
            obtain ⟨rr, hrr⟩ : ∃ rr : ByteArray, rr = ⟨r.toArray⟩ := ⟨_, rfl⟩
            have hrl : rr.data.toList = r := by rw [hrr]
            have hrs : rr.size ≤ 255 := by rw [hrr, toArr_size]; exact hr255
            unfold nmV at hcall
            simp only [← hrr] at hcall
            have hble := (nameOf_some hn).2.1
            rw [hl] at hble
            by_cases hfar : p + n < b
            · have HN : Hid (R = none) := by unfold Hid; rw [HR.out, hstep, q_far hn hfar]; rfl
              have hfar' : (p : Int) + (n : Int) < (b : Int) := by omega
              clear hn hstep hrr hrl
              go_wp2_with (go_at_call 44; go_must (refine (hcall _).mono ?_); rintro e w1 ⟨rfl, b1⟩; replace hb := next hb b1; clear b1)
              go_ret2
              exact ⟨ret_dt HN.out rfl, hb⟩
            · have HN : Hid (R = finQ s.data.toList (p + n) 1 t (nmsQ s.data.toList (p + n) b (1 - (k + 1)) (O ++ rr).data.toList)) := by unfold Hid; rw [HR.out, hstep, q_some hn hfar, app_list, hrl]
              have hfar' : decide ((p : Int) + (n : Int) < (b : Int)) = false := by simp; omega
              clear hn hstep hrr hrl
              go_wp2_with (go_at_call 44; go_must (refine (hcall _).mono ?_); rintro e w1 ⟨rfl, b1⟩; replace hb := next hb b1; clear b1)
              go_roundw
              case rel => exact ⟨k + 1, b, O ++ rr, by omega, rfl, rfl, by go_num, by omega, by rw [ByteArray.size_append]; omega, HN, hb⟩
              case measure => simp [intOf]; omega
        · have e : 1 - k = 0 := by omega
          have hki : decide ((k : Int) < 1) = false := by simp; omega
          obtain ⟨D, hD⟩ : ∃ D, D = s.extract P (p + n) := ⟨_, rfl⟩
          have hDl : D.data.toList = (s.data.toList.drop P).take (p + n - P) := by rw [hD, ext_list]
          have hDs : D.size ≤ 140737488355328 := by rw [hD, ext_size s P (p + n) hP hpn]; omega
          have hsl := cut_both s P (p + n) hP hpn
          rw [show ((p + n : Nat) : Int) = (p : Int) + (n : Int) from by omega, ← hD] at hsl
          obtain ⟨F, hF⟩ : ∃ F, F = O ++ D := ⟨_, rfl⟩
          have hFm : F.size ≤ maxLen := by rw [hF, ByteArray.size_append]; unfold maxLen; omega
          have hFl : F.data.toList = O.data.toList ++ (s.data.toList.drop P).take (p + n - P) := by rw [hF, app_list, hDl]
          have HN : Hid (R = if mayD t F.data.toList = true ∧ ¬ (0 < 1 ∧ t ≠ 6 ∧ P ≠ p + n) then some F.data.toList else none) := by unfold Hid; rw [HR.out, e, nmsQ, finQ, ← hFl]
          have hFF := hF.symm
          clear hD hDl hF hFl e
          cases hm : mayD t F.data.toList with
          | false =>
            have HNN : Hid (R = none) := by unfold Hid; rw [HN.out, hm, if_neg (fun h => by simp at h)]
            have HM : Hid (mayD t F.data.toList = false) := hm
            clear hm
            go_wp2_with (go_at_call 48; go_must (refine (dataMay_as t F false _ hFm HM.out).mono ?_); rintro e w1 ⟨rfl, b1⟩; replace hb := next hb b1; clear b1)
            go_ret2
            exact ⟨ret_dt HNN.out rfl, hb⟩
          | true =>
            have HM : Hid (mayD t F.data.toList = true) := hm
            by_cases hq : P = p + n
            · have HNN : Hid (R = some F.data.toList) := by unfold Hid; rw [HN.out, hm, if_pos ⟨rfl, fun h => h.2.2 hq⟩]
              have hq' : ((P : Int) != (p : Int) + (n : Int)) = false := by simp; omega
              clear hm hq
              go_wp2_with (go_at_call 48; go_must (refine (dataMay_as t F true _ hFm HM.out).mono ?_); rintro e w1 ⟨rfl, b1⟩; replace hb := next hb b1; clear b1)
              go_ret2
              exact ⟨ret_dt HNN.out rfl, hb⟩
            · have HNN : Hid (R = none) := by unfold Hid; rw [HN.out, hm, if_neg (fun h => h.2 ⟨by omega, ht6n.out, hq⟩)]
              have hq' : ((P : Int) != (p : Int) + (n : Int)) = true := by simp; omega
              clear hm hq
              go_wp2_with (go_at_call 48; go_must (refine (dataMay_as t F true _ hFm HM.out).mono ?_); rintro e w1 ⟨rfl, b1⟩; replace hb := next hb b1; clear b1)
              go_ret2
              exact ⟨ret_dt HNN.out rfl, hb⟩
  · have k1 : (t == 2) = false := by simp; omega
    have k2 : (t == 5) = false := by simp; omega
    have k3 : (t == 12) = false := by simp; omega
    by_cases h2 : t = 15
    · by_cases hn2 : n < 2
      · have hn2' : (n : Int) < 2 := by omega
        have HNN : Hid (R = none) := by unfold Hid; rw [hR, h2, data_15, if_pos hn2]
        subst h2
        clear hR
        go_enter Try.func45, Try.ntmps45
        go_wp2
        go_ret2
        exact ⟨ret_dt HNN.out rfl, hb⟩
      · have hn2' : decide ((n : Int) < 2) = false := by simp; omega
        have k4 : (t == 15) = true := by simpa using h2
        have ht6 : (t != 6) = true := by rw [h2]; rfl
        have ht6n : Hid (t ≠ 6) := by unfold Hid; omega
        obtain ⟨P0, hP00⟩ : ∃ P0, P0 = p + 2 := ⟨_, rfl⟩
        obtain ⟨O0, hO00⟩ : ∃ O0 : ByteArray, O0 = s.extract p (p + 2) := ⟨_, rfl⟩
        have hP0 : P0 ≤ p + n := by omega
        have hO0 : O0.size ≤ 2 + 255 * 0 := by rw [hO00, ext_size s p (p + 2) (by omega) (by omega)]; omega
        have hcut2 := cut_both s p (p + 2) (by omega) (by omega)
        rw [show ((p + 2 : Nat) : Int) = (p : Int) + 2 from by omega, ← hO00] at hcut2
        have HR0 : Hid (R = finQ s.data.toList (p + n) 1 t (nmsQ s.data.toList (p + n) P0 (1 - 0) O0.data.toList)) := by
          unfold Hid
          rw [hR, hP00, hO00, ext_list, show p + 2 - p = 2 from by omega, h2]
          exact data_doc_15 (by omega) (by rw [hl]; exact hpn)
        have HP00 : Hid (P0 = p + 2) := hP00
        clear hR hO00 h1 h2 hn2 hP00
        replace hs := hs0
        go_enter Try.func45, Try.ntmps45
        go_wp2
        go_loopw [10, 11, 13] (fun o fr i wr => ∃ (k P : Nat) (O : ByteArray), k ≤ 1 ∧ o = .string O ∧ fr = .int .i64 (P : Int) ∧ i = .int .i64 (k : Int) ∧ P ≤ p + n ∧ O.size ≤ 2 + 255 * k ∧ Hid (R = finQ s.data.toList (p + n) 1 t (nmsQ s.data.toList (p + n) P (1 - k) O.data.toList)) ∧ Below w.heap.size w wr) (fun _ _ i _ => 1 - (intOf i).toNat)
        case atStart => exact ⟨0, P0, O0, Nat.zero_le _, rfl, by rw [HP00.out]; go_num, rfl, hP0, hO0, HR0, hb⟩
        case round =>
          clear hb HR0
          obtain ⟨k, P, O, hk, rfl, rfl, rfl, hP, hO, HR, hb⟩ := hrel
          by_cases hkc : k < 1
          · have hki : (k : Int) < 1 := by omega
            have hstep : 1 - k = (1 - (k + 1)) + 1 := by omega
            cases hn : nameOf s.data.toList P with
            | none =>
              have HN : Hid (R = none) := by unfold Hid; rw [HR.out, hstep, q_none hn]; rfl
              have HNM : Hid (nameOf s.data.toList P = none) := hn
              clear hn hstep
              go_wp2_with (go_at_call 44; go_must (refine (rName_as s P none _ hs HNM.out).mono ?_); rintro e w1 ⟨rfl, b1⟩; unfold nmV; replace hb := next hb b1; clear b1)
              go_ret2
              exact ⟨ret_dt HN.out rfl, hb⟩
            | some rb =>
              obtain ⟨r, b⟩ := rb
              have hr255 := (name_some (nameOf_some hn).1).1
              have HNM : Hid (nameOf s.data.toList P = some (r, b)) := hn
              have hcall := fun u => rName_as s P (some (r, b)) u hs HNM.out
              obtain ⟨rr, hrr⟩ : ∃ rr : ByteArray, rr = ⟨r.toArray⟩ := ⟨_, rfl⟩
              have hrl : rr.data.toList = r := by rw [hrr]
              have hrs : rr.size ≤ 255 := by rw [hrr, toArr_size]; exact hr255
              unfold nmV at hcall
              simp only [← hrr] at hcall
              have hble := (nameOf_some hn).2.1
              rw [hl] at hble
              by_cases hfar : p + n < b
              · have HN : Hid (R = none) := by unfold Hid; rw [HR.out, hstep, q_far hn hfar]; rfl
                have hfar' : (p : Int) + (n : Int) < (b : Int) := by omega
                clear hn hstep hrr hrl
                go_wp2_with (go_at_call 44; go_must (refine (hcall _).mono ?_); rintro e w1 ⟨rfl, b1⟩; replace hb := next hb b1; clear b1)
                go_ret2
                exact ⟨ret_dt HN.out rfl, hb⟩
              · have HN : Hid (R = finQ s.data.toList (p + n) 1 t (nmsQ s.data.toList (p + n) b (1 - (k + 1)) (O ++ rr).data.toList)) := by unfold Hid; rw [HR.out, hstep, q_some hn hfar, app_list, hrl]
                have hfar' : decide ((p : Int) + (n : Int) < (b : Int)) = false := by simp; omega
                clear hn hstep hrr hrl
                go_wp2_with (go_at_call 44; go_must (refine (hcall _).mono ?_); rintro e w1 ⟨rfl, b1⟩; replace hb := next hb b1; clear b1)
                go_roundw
                case rel => exact ⟨k + 1, b, O ++ rr, by omega, rfl, rfl, by go_num, by omega, by rw [ByteArray.size_append]; omega, HN, hb⟩
                case measure => simp [intOf]; omega
          · have e : 1 - k = 0 := by omega
            have hki : decide ((k : Int) < 1) = false := by simp; omega
            obtain ⟨D, hD⟩ : ∃ D, D = s.extract P (p + n) := ⟨_, rfl⟩
            have hDl : D.data.toList = (s.data.toList.drop P).take (p + n - P) := by rw [hD, ext_list]
            have hDs : D.size ≤ 140737488355328 := by rw [hD, ext_size s P (p + n) hP hpn]; omega
            have hsl := cut_both s P (p + n) hP hpn
            rw [show ((p + n : Nat) : Int) = (p : Int) + (n : Int) from by omega, ← hD] at hsl
            obtain ⟨F, hF⟩ : ∃ F, F = O ++ D := ⟨_, rfl⟩
            have hFm : F.size ≤ maxLen := by rw [hF, ByteArray.size_append]; unfold maxLen; omega
            have hFl : F.data.toList = O.data.toList ++ (s.data.toList.drop P).take (p + n - P) := by rw [hF, app_list, hDl]
            have HN : Hid (R = if mayD t F.data.toList = true ∧ ¬ (0 < 1 ∧ t ≠ 6 ∧ P ≠ p + n) then some F.data.toList else none) := by unfold Hid; rw [HR.out, e, nmsQ, finQ, ← hFl]
            have hFF := hF.symm
            clear hD hDl hF hFl e
            cases hm : mayD t F.data.toList with
            | false =>
              have HNN : Hid (R = none) := by unfold Hid; rw [HN.out, hm, if_neg (fun h => by simp at h)]
              have HM : Hid (mayD t F.data.toList = false) := hm
              clear hm
              go_wp2_with (go_at_call 48; go_must (refine (dataMay_as t F false _ hFm HM.out).mono ?_); rintro e w1 ⟨rfl, b1⟩; replace hb := next hb b1; clear b1)
              go_ret2
              exact ⟨ret_dt HNN.out rfl, hb⟩
            | true =>
              have HM : Hid (mayD t F.data.toList = true) := hm
              by_cases hq : P = p + n
              · have HNN : Hid (R = some F.data.toList) := by unfold Hid; rw [HN.out, hm, if_pos ⟨rfl, fun h => h.2.2 hq⟩]
                have hq' : ((P : Int) != (p : Int) + (n : Int)) = false := by simp; omega
                clear hm hq
                go_wp2_with (go_at_call 48; go_must (refine (dataMay_as t F true _ hFm HM.out).mono ?_); rintro e w1 ⟨rfl, b1⟩; replace hb := next hb b1; clear b1)
                go_ret2
                exact ⟨ret_dt HNN.out rfl, hb⟩
              · have HNN : Hid (R = none) := by unfold Hid; rw [HN.out, hm, if_neg (fun h => h.2 ⟨by omega, ht6n.out, hq⟩)]
                have hq' : ((P : Int) != (p : Int) + (n : Int)) = true := by simp; omega
                clear hm hq
                go_wp2_with (go_at_call 48; go_must (refine (dataMay_as t F true _ hFm HM.out).mono ?_); rintro e w1 ⟨rfl, b1⟩; replace hb := next hb b1; clear b1)
                go_ret2
                exact ⟨ret_dt HNN.out rfl, hb⟩
    · have k4 : (t == 15) = false := by simpa using h2
      by_cases h3 : t = 6
      · subst h3
        have HR0 : Hid (R = finQ s.data.toList (p + n) 2 6 (nmsQ s.data.toList (p + n) p (2 - 0) (⟨#[]⟩ : ByteArray).data.toList)) := by unfold Hid; rw [hR]; exact data_doc_6 (by rw [hl]; exact hpn)
        have hP0 : p ≤ p + n := by omega
        have hO0 : (⟨#[]⟩ : ByteArray).size ≤ 2 + 255 * 0 := by decide
        clear hR h1 h2
        replace hs := hs0
        go_enter Try.func45, Try.ntmps45
        go_wp2
        go_loopw [10, 11, 13] (fun o fr i wr => ∃ (k P : Nat) (O : ByteArray), k ≤ 2 ∧ o = .string O ∧ fr = .int .i64 (P : Int) ∧ i = .int .i64 (k : Int) ∧ P ≤ p + n ∧ O.size ≤ 2 + 255 * k ∧ Hid (R = finQ s.data.toList (p + n) 2 6 (nmsQ s.data.toList (p + n) P (2 - k) O.data.toList)) ∧ Below w.heap.size w wr) (fun _ _ i _ => 2 - (intOf i).toNat)
        case atStart => exact ⟨0, p, ⟨#[]⟩, Nat.zero_le _, rfl, by go_num, rfl, hP0, hO0, HR0, hb⟩
        case round =>
          clear hb HR0
          obtain ⟨k, P, O, hk, rfl, rfl, rfl, hP, hO, HR, hb⟩ := hrel
          by_cases hkc : k < 2
          · have hki : (k : Int) < 2 := by omega
            have hstep : 2 - k = (2 - (k + 1)) + 1 := by omega
            cases hn : nameOf s.data.toList P with
            | none =>
              have HN : Hid (R = none) := by unfold Hid; rw [HR.out, hstep, q_none hn]; rfl
              have HNM : Hid (nameOf s.data.toList P = none) := hn
              clear hn hstep
              go_wp2_with (go_at_call 44; go_must (refine (rName_as s P none _ hs HNM.out).mono ?_); rintro e w1 ⟨rfl, b1⟩; unfold nmV; replace hb := next hb b1; clear b1)
              go_ret2
              exact ⟨ret_dt HN.out rfl, hb⟩
            | some rb =>
              obtain ⟨r, b⟩ := rb
              have hr255 := (name_some (nameOf_some hn).1).1
              have HNM : Hid (nameOf s.data.toList P = some (r, b)) := hn
              have hcall := fun u => rName_as s P (some (r, b)) u hs HNM.out
              obtain ⟨rr, hrr⟩ : ∃ rr : ByteArray, rr = ⟨r.toArray⟩ := ⟨_, rfl⟩
              have hrl : rr.data.toList = r := by rw [hrr]
              have hrs : rr.size ≤ 255 := by rw [hrr, toArr_size]; exact hr255
              unfold nmV at hcall
              simp only [← hrr] at hcall
              have hble := (nameOf_some hn).2.1
              rw [hl] at hble
              by_cases hfar : p + n < b
              · have HN : Hid (R = none) := by unfold Hid; rw [HR.out, hstep, q_far hn hfar]; rfl
                have hfar' : (p : Int) + (n : Int) < (b : Int) := by omega
                clear hn hstep hrr hrl
                go_wp2_with (go_at_call 44; go_must (refine (hcall _).mono ?_); rintro e w1 ⟨rfl, b1⟩; replace hb := next hb b1; clear b1)
                go_ret2
                exact ⟨ret_dt HN.out rfl, hb⟩
              · have HN : Hid (R = finQ s.data.toList (p + n) 2 6 (nmsQ s.data.toList (p + n) b (2 - (k + 1)) (O ++ rr).data.toList)) := by unfold Hid; rw [HR.out, hstep, q_some hn hfar, app_list, hrl]
                have hfar' : decide ((p : Int) + (n : Int) < (b : Int)) = false := by simp; omega
                clear hn hstep hrr hrl
                go_wp2_with (go_at_call 44; go_must (refine (hcall _).mono ?_); rintro e w1 ⟨rfl, b1⟩; replace hb := next hb b1; clear b1)
                go_roundw
                case rel => exact ⟨k + 1, b, O ++ rr, by omega, rfl, rfl, by go_num, by omega, by rw [ByteArray.size_append]; omega, HN, hb⟩
                case measure => simp [intOf]; omega
          · have e : 2 - k = 0 := by omega
            have hki : decide ((k : Int) < 2) = false := by simp; omega
            obtain ⟨D, hD⟩ : ∃ D, D = s.extract P (p + n) := ⟨_, rfl⟩
            have hDl : D.data.toList = (s.data.toList.drop P).take (p + n - P) := by rw [hD, ext_list]
            have hDs : D.size ≤ 140737488355328 := by rw [hD, ext_size s P (p + n) hP hpn]; omega
            have hsl := cut_both s P (p + n) hP hpn
            rw [show ((p + n : Nat) : Int) = (p : Int) + (n : Int) from by omega, ← hD] at hsl
            obtain ⟨F, hF⟩ : ∃ F, F = O ++ D := ⟨_, rfl⟩
            have hFm : F.size ≤ maxLen := by rw [hF, ByteArray.size_append]; unfold maxLen; omega
            have hFl : F.data.toList = O.data.toList ++ (s.data.toList.drop P).take (p + n - P) := by rw [hF, app_list, hDl]
            have HN : Hid (R = if mayD 6 F.data.toList = true ∧ ¬ (0 < 2 ∧ (6 : Int) ≠ 6 ∧ P ≠ p + n) then some F.data.toList else none) := by unfold Hid; rw [HR.out, e, nmsQ, finQ, ← hFl]
            have hFF := hF.symm
            clear hD hDl hF hFl e
            cases hm : mayD 6 F.data.toList with
            | false =>
              have HNN : Hid (R = none) := by unfold Hid; rw [HN.out, hm, if_neg (fun h => by simp at h)]
              have HM : Hid (mayD 6 F.data.toList = false) := hm
              clear hm
              go_wp2_with (go_at_call 48; go_must (refine (dataMay_as 6 F false _ hFm HM.out).mono ?_); rintro e w1 ⟨rfl, b1⟩; replace hb := next hb b1; clear b1)
              go_ret2
              exact ⟨ret_dt HNN.out rfl, hb⟩
            | true =>
              have HM : Hid (mayD 6 F.data.toList = true) := hm
              have HNN : Hid (R = some F.data.toList) := by unfold Hid; rw [HN.out, hm, if_pos ⟨rfl, fun h => h.2.1 rfl⟩]
              clear hm
              go_wp2_with (go_at_call 48; go_must (refine (dataMay_as 6 F true _ hFm HM.out).mono ?_); rintro e w1 ⟨rfl, b1⟩; replace hb := next hb b1; clear b1)
              go_ret2
              exact ⟨ret_dt HNN.out rfl, hb⟩
      · have k5 : (t == 6) = false := by simpa using h3
        have HR0 : Hid (R = finQ s.data.toList (p + n) 0 t (nmsQ s.data.toList (p + n) p (0 - 0) (⟨#[]⟩ : ByteArray).data.toList)) := by unfold Hid; rw [hR]; exact data_doc_o h1 h2 h3
        have hP0 : p ≤ p + n := by omega
        have hO0 : (⟨#[]⟩ : ByteArray).size ≤ 2 + 255 * 0 := by decide
        clear hR h1 h2 h3
        replace hs := hs0
        go_enter Try.func45, Try.ntmps45
        go_wp2
        go_loopw [10, 11, 13] (fun o fr i wr => ∃ (k P : Nat) (O : ByteArray), k ≤ 0 ∧ o = .string O ∧ fr = .int .i64 (P : Int) ∧ i = .int .i64 (k : Int) ∧ P ≤ p + n ∧ O.size ≤ 2 + 255 * k ∧ Hid (R = finQ s.data.toList (p + n) 0 t (nmsQ s.data.toList (p + n) P (0 - k) O.data.toList)) ∧ Below w.heap.size w wr) (fun _ _ i _ => 0 - (intOf i).toNat)
        case atStart => exact ⟨0, p, ⟨#[]⟩, Nat.zero_le _, rfl, by go_num, rfl, hP0, hO0, HR0, hb⟩
        case round =>
          clear hb HR0
          obtain ⟨k, P, O, hk, rfl, rfl, rfl, hP, hO, HR, hb⟩ := hrel
          by_cases hkc : k < 0
          · omega
          · have e : 0 - k = 0 := by omega
            have hki : decide ((k : Int) < 0) = false := by simp
            obtain ⟨D, hD⟩ : ∃ D, D = s.extract P (p + n) := ⟨_, rfl⟩
            have hDl : D.data.toList = (s.data.toList.drop P).take (p + n - P) := by rw [hD, ext_list]
            have hDs : D.size ≤ 140737488355328 := by rw [hD, ext_size s P (p + n) hP hpn]; omega
            have hsl := cut_both s P (p + n) hP hpn
            rw [show ((p + n : Nat) : Int) = (p : Int) + (n : Int) from by omega, ← hD] at hsl
            obtain ⟨F, hF⟩ : ∃ F, F = O ++ D := ⟨_, rfl⟩
            have hFm : F.size ≤ maxLen := by rw [hF, ByteArray.size_append]; unfold maxLen; omega
            have hFl : F.data.toList = O.data.toList ++ (s.data.toList.drop P).take (p + n - P) := by rw [hF, app_list, hDl]
            have HN : Hid (R = if mayD t F.data.toList = true ∧ ¬ (0 < 0 ∧ t ≠ 6 ∧ P ≠ p + n) then some F.data.toList else none) := by unfold Hid; rw [HR.out, e, nmsQ, finQ, ← hFl]
            have hFF := hF.symm
            clear hD hDl hF hFl e
            cases hm : mayD t F.data.toList with
            | false =>
              have HNN : Hid (R = none) := by unfold Hid; rw [HN.out, hm, if_neg (fun h => by simp at h)]
              have HM : Hid (mayD t F.data.toList = false) := hm
              clear hm
              go_wp2_with (go_at_call 48; go_must (refine (dataMay_as t F false _ hFm HM.out).mono ?_); rintro e w1 ⟨rfl, b1⟩; replace hb := next hb b1; clear b1)
              go_ret2
              exact ⟨ret_dt HNN.out rfl, hb⟩
            | true =>
              have HM : Hid (mayD t F.data.toList = true) := hm
              have HNN : Hid (R = some F.data.toList) := by unfold Hid; rw [HN.out, hm, if_pos ⟨rfl, fun h => by omega⟩]
              clear hm
              go_wp2_with (go_at_call 48; go_must (refine (dataMay_as t F true _ hFm HM.out).mono ?_); rintro e w1 ⟨rfl, b1⟩; replace hb := next hb b1; clear b1)
              go_ret2
              exact ⟨ret_dt HNN.out rfl, hb⟩

theorem rData_bad (s : ByteArray) (a b t : Int) (w : World) (hs : s.size ≤ 140737488355328) (h : a < 0 ∨ b < 0 ∨ (s.size : Int) < a + b) :
    Calls Try.prog 45 #[.string s, .int .i64 a, .int .i64 b, .int .i64 t] w fun e w' => e = .returned (dtV none) ∧ Below w.heap.size w w' := by
  by_cases h1 : a < 0
  · go_enter Try.func45, Try.ntmps45
    go_wp2
    go_ret2
    exact ⟨rfl, Below.refl _ _⟩
  · have h1' : decide (a < 0) = false := by simpa using h1
    by_cases h2 : b < 0
    · go_enter Try.func45, Try.ntmps45
      go_wp2
      go_ret2
      exact ⟨rfl, Below.refl _ _⟩
    · have h2' : decide (b < 0) = false := by simpa using h2
      by_cases h3 : (s.size : Int) < a
      · go_enter Try.func45, Try.ntmps45
        go_wp2
        go_ret2
        exact ⟨rfl, Below.refl _ _⟩
      · have h3' : decide ((s.size : Int) < a) = false := by simpa using h3
        have h4 : (s.size : Int) - a < b := by omega
        clear h
        go_enter Try.func45, Try.ntmps45
        go_wp2
        go_ret2
        exact ⟨rfl, Below.refl _ _⟩

end Go.Proofs.Ytbffnicfibfceaa
