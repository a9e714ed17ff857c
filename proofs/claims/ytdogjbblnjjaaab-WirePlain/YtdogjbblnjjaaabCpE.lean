/- What names, whole and Data of package comp give, for every argument. -/
import Derived.Test.YtdogjbblnjjaaabCpD
namespace Go.Proofs.Ytdogjbblnjjaaab
open Go.RowKit
open Pl

/-- What names of package comp answers. -/
def nsV (E : Int) : Option (List UInt8 × Nat) → Value
  | none => .tuple #[.string ⟨#[]⟩, .bool false]
  | some (t, b) => .tuple #[.string ⟨t.toArray⟩, .bool ((b : Int) == E)]
theorem ret_ns {E : Int} {R R' : Option (List UInt8 × Nat)} {v : Value} (h : R = R') (hv : v = nsV E R') : Ending.returned v = .returned (nsV E R) := by rw [h, hv]

theorem cName_as (s : ByteArray) (p : Nat) (R : Option (List UInt8 × Nat)) (w : World) (hs : s.size ≤ 140737488355328) (h : nameOf s.data.toList p = R) :
    Calls Try.prog 49 #[.string s, .int .i64 (p : Int)] w fun e w' => e = .returned (nmV R) ∧ Below w.heap.size w w' := by rw [← h]; exact cName_any s p w hs

theorem toArr_size (l : List UInt8) : (⟨l.toArray⟩ : ByteArray).size = l.length := by simp [ByteArray.size]

set_option maxRecDepth 20000 in
theorem names_any (s : ByteArray) (p c : Nat) (E : Int) (w : World) (hs : s.size ≤ 140737488355328) (hc : c ≤ 2) :
    Calls Try.prog 69 #[.string s, .int .i64 (p : Int), .int .i64 E, .int .i64 (c : Int)] w fun e w' => e = .returned (nsV E (namesOf s.data.toList p c)) ∧ Below w.heap.size w w' := by
  obtain ⟨R, hR⟩ : ∃ R, R = namesOf s.data.toList p c := ⟨_, rfl⟩
  have HST : Hid (R = pre [] (namesOf s.data.toList p (c - 0))) := by unfold Hid; rw [pre_nil]; exact hR
  rw [← hR]
  clear hR
  have hb : Below w.heap.size w w := Below.refl _ _
  go_enter Try.func69, Try.ntmps69
  go_wp2
  go_loopw [1, 10, 15] (fun a o i wr => ∃ (k P : Nat) (O : ByteArray), k ≤ c ∧ a = .int .i64 (P : Int) ∧ o = .string O ∧ i = .int .i64 (k : Int) ∧ O.size ≤ 255 * k ∧ Hid (R = pre O.data.toList (namesOf s.data.toList P (c - k))) ∧ Below w.heap.size w wr) (fun _ _ i _ => c - (intOf i).toNat)
  case atStart => exact ⟨0, p, ⟨#[]⟩, Nat.zero_le _, rfl, rfl, rfl, by decide, HST, hb⟩
  case round =>
    clear hb HST
    obtain ⟨k, P, O, hk, rfl, rfl, rfl, hO, HR, hb⟩ := hrel
    by_cases hkc : k < c
    · have hstep : c - k = (c - (k + 1)) + 1 := by omega
      cases hn : nameOf s.data.toList P with
      | none =>
        have HN : Hid (R = none) := by unfold Hid; rw [HR.out, hstep]; exact pre_none hn
        have HNM : Hid (nameOf s.data.toList P = none) := hn
        clear hn hstep
        go_wp2_with (go_at_call 49; go_must (refine (cName_as s P none _ hs HNM.out).mono ?_); rintro e w1 ⟨rfl, b1⟩; unfold nmV; replace hb := next hb b1; clear b1)
        go_ret2
        exact ⟨ret_ns HN.out rfl, hb⟩
      | some rb =>
        obtain ⟨r, b⟩ := rb
        have hr := nameOf_some hn
        have hr255 := (name_some hr.1).1
        have HN : Hid (R = pre (O ++ ⟨r.toArray⟩).data.toList (namesOf s.data.toList b (c - (k + 1)))) := by
          unfold Hid; rw [HR.out, hstep, pre_some hn, app_list]
        have HNM : Hid (nameOf s.data.toList P = some (r, b)) := hn
        have hrs : (⟨r.toArray⟩ : ByteArray).size ≤ 255 := by rw [toArr_size]; exact hr255
        clear hn hr hr255 hstep
        obtain ⟨rr, hrr⟩ : ∃ rr : ByteArray, rr = ⟨r.toArray⟩ := ⟨_, rfl⟩
        have hcall := fun u => cName_as s P (some (r, b)) u hs HNM.out
        unfold nmV at hcall
        rw [← hrr] at HN hrs
        simp only [← hrr] at hcall
        clear hrr
        go_wp2_with (go_at_call 49; go_must (refine (hcall _).mono ?_); rintro e w1 ⟨rfl, b1⟩; replace hb := next hb b1; clear b1)
        go_roundw
        case rel => exact ⟨k + 1, b, O ++ rr, by omega, rfl, rfl, by go_num, by rw [ByteArray.size_append]; omega, HN, hb⟩
        case measure => simp [intOf]; omega
    · have e : c - k = 0 := by omega
      have HN : Hid (R = some (O.data.toList, P)) := by unfold Hid; rw [HR.out, e, namesOf, pre, List.append_nil]
      have hkc' : decide (k < c) = false := by simpa using hkc
      clear e
      go_wp2
      go_ret2
      exact ⟨ret_ns HN.out rfl, hb⟩

theorem names_as (s : ByteArray) (p c : Nat) (P E C : Int) (R : Option (List UInt8 × Nat)) (w : World) (hs : s.size ≤ 140737488355328) (hc : c ≤ 2) (hP : P = (p : Int)) (hC : C = (c : Int)) (h : namesOf s.data.toList p c = R) :
    Calls Try.prog 69 #[.string s, .int .i64 P, .int .i64 E, .int .i64 C] w fun e w' => e = .returned (nsV E R) ∧ Below w.heap.size w w' := by
  subst hP; subst hC; rw [← h]; exact names_any s p c E w hs hc

/-- What whole of package comp leaves. -/
def WhP (t : Int) (R : Option (List UInt8)) (D : ByteArray) (b : Bool) : Prop :=
  D.size ≤ 140737488355328 ∧ (b = false → R = none) ∧ (b = true → R = if mayD t D.data.toList = true then some D.data.toList else none)
/-- What whole of package comp gives. -/
def WhE (t : Int) (R : Option (List UInt8)) (e : Ending) : Prop := ∃ D b, e = .returned (.tuple #[.string D, .bool b]) ∧ WhP t R D b

theorem wh_n {l : List UInt8} {p n : Nat} {t : Int} {R : Option (List UInt8 × Nat)} (h : t = 2 ∨ t = 5 ∨ t = 12) (hR : namesOf l p 1 = R) : WhE t (dataOf l p n t) (.returned (nsV ((p + n : Nat) : Int) R)) := by
  rw [names_one] at hR
  rw [data_n h, hR]
  cases R with
  | none => exact ⟨_, _, rfl, by decide, fun _ => rfl, fun e => by simp at e⟩
  | some z =>
    obtain ⟨r, b⟩ := z
    have hn := (nameOf_some hR).1
    have h255 := (name_some hn).1
    refine ⟨_, _, rfl, by rw [toArr_size]; omega, fun e => ?_, fun e => ?_⟩
    · have e' : b ≠ p + n := by simp at e; omega
      rw [dtN, if_neg e']
    · have e' : b = p + n := by simp at e; omega
      rw [dtN, if_pos e', may_n h, if_pos hn, List.nil_append]
theorem wh_15 {l : List UInt8} {p n : Nat} {R : Option (List UInt8 × Nat)} {D : ByteArray} (hn : 2 ≤ n) (hpn : p + n ≤ l.length) (hR : namesOf l (p + 2) 1 = R) (hl : D.data.toList = (l.drop p).take 2) : ∃ H b, nsV ((p + n : Nat) : Int) R = .tuple #[.string H, .bool b] ∧ H.size ≤ 255 ∧ Hid (WhP 15 (dataOf l p n 15) (D ++ H) b) := by
  rw [names_one] at hR
  rw [data_15, if_neg (by omega), hR]
  have hd2 : D.data.toList.length = 2 := by rw [hl, List.length_take, List.length_drop]; omega
  have hds : D.size = 2 := by rw [← data_len]; exact hd2
  cases R with
  | none => exact ⟨⟨#[]⟩, false, rfl, by decide, by rw [ByteArray.size_append, hds]; decide, fun _ => rfl, fun e => by simp at e⟩
  | some z =>
    obtain ⟨r, b⟩ := z
    have hn := (nameOf_some hR).1
    have h255 := (name_some hn).1
    have hne := name_ne hn
    have hrs := toArr_size r
    refine ⟨_, _, rfl, by rw [hrs]; exact h255, by rw [ByteArray.size_append, hds, hrs]; omega, fun e => ?_, fun e => ?_⟩
    · have e' : b ≠ p + n := by simp at e; omega
      rw [dtN, if_neg e']
    · have e' : b = p + n := by simp at e; omega
      have hm : mayD 15 (D ++ (⟨r.toArray⟩ : ByteArray)).data.toList = true := by
        rw [may_15, app_list, List.length_append]
        have hdr : (D.data.toList ++ (⟨r.toArray⟩ : ByteArray).data.toList).drop 2 = r := by rw [← hd2, List.drop_left]
        rw [hdr, hn, hd2]
        simp; omega
      rw [hm, dtN, if_pos e', if_pos rfl, app_list, hl]
theorem wh_6 {l : List UInt8} {p n : Nat} {E : Int} {R : Option (List UInt8 × Nat)} {D : ByteArray} (hn : 20 ≤ n) (hpn : p + n ≤ l.length) (hE : E = ((p + n - 20 : Nat) : Int)) (hR : namesOf l p 2 = R) (hl : D.data.toList = (l.drop (p + n - 20)).take 20) : ∃ H b, nsV E R = .tuple #[.string H, .bool b] ∧ H.size ≤ 510 ∧ Hid (WhP 6 (dataOf l p n 6) (H ++ D) b) := by
  subst hE
  rw [data_6]
  have hd2 : D.data.toList.length = 20 := by rw [hl, List.length_take, List.length_drop]; omega
  have hds : D.size = 20 := by rw [← data_len]; exact hd2
  have bad : ∀ X : Option (List UInt8), X = none → ∃ H b, nsV ((p + n - 20 : Nat) : Int) none = .tuple #[.string H, .bool b] ∧ H.size ≤ 510 ∧ Hid (WhP 6 X (H ++ D) b) := fun X hX => ⟨⟨#[]⟩, false, rfl, by decide, by rw [ByteArray.size_append, hds]; decide, fun _ => hX, fun e => by simp at e⟩
  cases h1 : nameOf l p with
  | none =>
    have e := pre_none (O := []) (c := 1) h1
    rw [pre_nil] at e
    rw [← hR, e]; exact bad _ rfl
  | some z =>
    obtain ⟨r, b⟩ := z
    have e := pre_some (O := []) (c := 1) h1
    rw [pre_nil, names_one] at e
    rw [← hR, e, dtS]
    cases h2 : nameOf l b with
    | none => exact bad _ rfl
    | some z =>
      obtain ⟨r2, b2⟩ := z
      have n1 := (nameOf_some h1).1
      have n2 := (nameOf_some h2).1
      have l1 := (name_some n1).1
      have l2 := (name_some n2).1
      have hrs := toArr_size (r ++ r2)
      rw [List.length_append] at hrs
      rw [List.nil_append, pre, dtS2]
      refine ⟨⟨(r ++ r2).toArray⟩, _, rfl, by omega, by rw [ByteArray.size_append, hds, hrs]; omega, fun e => ?_, fun e => ?_⟩
      · have e' : ¬ b2 + 20 = p + n := by simp at e; omega
        rw [if_neg e']
      · have e' : b2 + 20 = p + n := by simp at e; omega
        have e2 : b2 = p + n - 20 := by omega
        have hm : mayD 6 ((⟨(r ++ r2).toArray⟩ : ByteArray) ++ D).data.toList = true := by
          rw [may_6, app_list, hl]
          show (soaL (r ++ r2 ++ _)).isSome = true
          rw [List.append_assoc, soa_names n1 n2, ← hl, if_pos hd2]; rfl
        rw [hm, if_pos e', if_pos rfl, app_list, hl, e2]
        show some (r ++ (r2 ++ _)) = some (r ++ r2 ++ _)
        rw [List.append_assoc]

set_option maxRecDepth 20000 in
theorem whole_any5 (s : ByteArray) (p n : Nat) (E t : Int) (w : World) (hs : s.size ≤ 140737488355328) (hpn : p + n ≤ s.size) (hE : E = (p : Int) + (n : Int)) :
    Calls Try.prog 62 #[.string s, .int .i64 (p : Int), .int .i64 E, .int .i64 t] w fun e w' => WhE t (dataOf s.data.toList p n t) e ∧ Below w.heap.size w w' := by
  have hl := data_len s
  have hEn : E = ((p + n : Nat) : Int) := by omega
  have HEN : Hid (E = ((p + n : Nat) : Int)) := hEn
  have hEb : E ≤ 140737488355328 := by omega
  have hEb0 : (p : Int) ≤ E := by omega
  clear hE
  by_cases h1 : t = 2 ∨ t = 5 ∨ t = 12
  · have HW : Hid (WhE t (dataOf s.data.toList p n t) (.returned (nsV E (namesOf s.data.toList p 1)))) := by unfold Hid; rw [hEn]; exact wh_n h1 rfl
    have hcall := fun u => names_any s p 1 E u hs (by decide)
    clear hEn
    rcases h1 with rfl | rfl | rfl
    all_goals
      go_enter Try.func62, Try.ntmps62
      go_wp2_with (go_at_call 69; go_must (refine (hcall _).mono ?_); rintro e w1 ⟨he, b1⟩; subst he; revert HW; cases hR : namesOf s.data.toList p 1 <;> (intro HW; unfold nsV at HW ⊢))
      all_goals
        go_ret2
        exact ⟨HW.out, b1⟩
  · by_cases h2 : t = 15
    · subst h2
      by_cases hn : n < 2
      · have hn' : E - (p : Int) < 2 := by omega
        have HR : Hid (dataOf s.data.toList p n 15 = none) := by unfold Hid; rw [data_15, if_pos hn]
        clear hEn
        go_enter Try.func62, Try.ntmps62
        go_wp2
        go_ret2
        exact ⟨⟨_, _, rfl, by decide, fun _ => HR.out, fun e => by simp at e⟩, Below.refl _ _⟩
      · have hn' : decide (E - (p : Int) < 2) = false := by simp; omega
        obtain ⟨D, hD⟩ : ∃ D, D = s.extract p (p + 2) := ⟨_, rfl⟩
        have hDl : D.data.toList = (s.data.toList.drop p).take 2 := by rw [hD, ext_list, show p + 2 - p = 2 from by omega]
        obtain ⟨H, b, hv, hH, HW⟩ := wh_15 (n := n) (R := namesOf s.data.toList (p + 2) 1) (by omega) (by rw [hl]; exact hpn) rfl hDl
        have hcut := cut_both s p (p + 2) (by omega) (by omega)
        rw [show ((p + 2 : Nat) : Int) = (p : Int) + 2 from by omega, ← hD] at hcut
        have hcall := fun u => names_as s (p + 2) 1 ((p : Int) + 2) E 1 _ u hs (by decide) (by omega) rfl rfl
        rw [← hEn] at hv
        rw [hv] at hcall
        have hDs : D.size = 2 := by rw [← data_len, hDl, List.length_take, List.length_drop]; omega
        clear hEn hv hD hDl
        go_enter Try.func62, Try.ntmps62
        go_wp2_with (go_at_call 69; go_must (refine (hcall _).mono ?_); rintro e w1 ⟨rfl, b1⟩)
        go_ret2
        exact ⟨⟨_, _, rfl, HW.out⟩, b1⟩
    · have h2' : (t == 15) = false := by simpa using h2
      have g1 : (t == 2) = false := by simp; omega
      have g2 : (t == 5) = false := by simp; omega
      have g3 : (t == 12) = false := by simp; omega
      by_cases h3 : t = 6
      · subst h3
        by_cases hn : n < 20
        · have hn' : E - (p : Int) < 20 := by omega
          have HR : Hid (dataOf s.data.toList p n 6 = none) := data_6_short hn
          clear hEn
          go_enter Try.func62, Try.ntmps62
          go_wp2
          go_ret2
          exact ⟨⟨_, _, rfl, by decide, fun _ => HR.out, fun e => by simp at e⟩, Below.refl _ _⟩
        · have hn' : decide (E - (p : Int) < 20) = false := by simp; omega
          obtain ⟨D, hD⟩ : ∃ D, D = s.extract (p + n - 20) (p + n) := ⟨_, rfl⟩
          have hDl : D.data.toList = (s.data.toList.drop (p + n - 20)).take 20 := by rw [hD, ext_list, show p + n - (p + n - 20) = 20 from by omega]
          obtain ⟨H, b, hv, hH, HW⟩ := wh_6 (E := E - 20) (R := namesOf s.data.toList p 2) (by omega) (by rw [hl]; exact hpn) (by omega) rfl hDl
          have hcut := cut_both s (p + n - 20) (p + n) (by omega) (by omega)
          rw [show ((p + n - 20 : Nat) : Int) = E - 20 from by omega, ← hEn, ← hD] at hcut
          have hcall := fun u => names_as s p 2 (p : Int) (E - 20) 2 _ u hs (by decide) rfl rfl rfl
          rw [hv] at hcall
          have hDs : D.size = 20 := by rw [← data_len, hDl, List.length_take, List.length_drop]; omega
          clear hEn hv hD hDl
          go_enter Try.func62, Try.ntmps62
          go_wp2_with (go_at_call 69; go_must (refine (hcall _).mono ?_); rintro e w1 ⟨rfl, b1⟩)
          go_ret2
          exact ⟨⟨_, _, rfl, HW.out⟩, b1⟩
      · have h3' : (t == 6) = false := by simpa using h3
        have hcut := cut_both s p (p + n) (by omega) hpn
        rw [← hEn] at hcut
        obtain ⟨D, hD⟩ : ∃ D, D = s.extract p (p + n) := ⟨_, rfl⟩
        have hDl : D.data.toList = (s.data.toList.drop p).take n := by rw [hD, ext_list, show p + n - p = n from by omega]
        have HW : Hid (WhP t (dataOf s.data.toList p n t) D true) := ⟨by rw [hD, ext_size s p (p + n) (by omega) hpn]; omega, fun e => by simp at e, fun _ => by rw [data_o h1 h2 h3, hDl]⟩
        rw [← hD] at hcut
        clear hEn hD hDl h1 h2 h3
        go_enter Try.func62, Try.ntmps62
        go_wp2
        go_ret2
        exact ⟨⟨_, _, rfl, HW.out⟩, Below.refl _ _⟩

/-- What Data of package comp answers. -/
def dtV : Option (List UInt8) → Value
  | none => .tuple #[.string ⟨#[]⟩, .int .i64 500]
  | some d => .tuple #[.string ⟨d.toArray⟩, .int .i64 0]
theorem ret_dt {R R' : Option (List UInt8)} {v : Value} (h : R = R') (hv : v = dtV R') : Ending.returned v = .returned (dtV R) := by rw [h, hv]

/-- The three ways behind whole. -/
theorem wh_ways {t : Int} {R : Option (List UInt8)} {e : Ending} (h : WhE t R e) :
    (∃ D, e = .returned (.tuple #[.string D, .bool false]) ∧ Hid (R = none)) ∨ (∃ D, e = .returned (.tuple #[.string D, .bool true]) ∧ Hid (D.size ≤ maxLen) ∧ Hid (mayD t D.data.toList = false) ∧ Hid (R = none)) ∨
    (∃ D, e = .returned (.tuple #[.string D, .bool true]) ∧ Hid (D.size ≤ maxLen) ∧ Hid (mayD t D.data.toList = true) ∧ Hid (D.size ≤ 65535) ∧ Hid (R = some D.data.toList)) := by
  obtain ⟨D, b, rfl, h0, h1, h2⟩ := h
  cases b with
  | false => exact .inl ⟨D, rfl, h1 rfl⟩
  | true =>
    have h3 := h2 rfl
    cases hm : mayD t D.data.toList with
    | false => exact .inr (.inl ⟨D, rfl, max_of h0, hm, by rw [h3, hm]; unfold Hid; rfl⟩)
    | true =>
      refine .inr (.inr ⟨D, rfl, max_of h0, hm, ?_, by rw [h3, hm]; unfold Hid; rfl⟩)
      unfold Hid
      apply Classical.byContradiction
      intro hc
      rw [may_long t (by rw [data_len]; omega)] at hm
      simp at hm
theorem may4_at (t : Int) (s : ByteArray) (r : Bool) (w : World) (hs : s.size ≤ maxLen) (h : mayD t s.data.toList = r) :
    Calls Try.prog 57 #[.int .i64 t, .string s] w fun e w' => e = .returned (.bool r) ∧ ∃ m, w' = w.drewN m := by rw [← h]; exact may4_any t s w hs

set_option maxRecDepth 20000 in
theorem cData_any (s : ByteArray) (p n : Nat) (t : Int) (w : World) (hs : s.size ≤ 140737488355328) (hpn : p + n ≤ s.size) :
    Calls Try.prog 51 #[.string s, .int .i64 (p : Int), .int .i64 (n : Int), .int .i64 t] w fun e w' => e = .returned (dtV (dataOf s.data.toList p n t)) ∧ Below w.heap.size w w' := by
  obtain ⟨R, hR⟩ : ∃ R, R = dataOf s.data.toList p n t := ⟨_, rfl⟩
  have hcall := fun u => whole_any5 s p n ((p : Int) + (n : Int)) t u hs hpn rfl
  rw [← hR] at hcall ⊢
  clear hR
  have hb : Below w.heap.size w w := Below.refl _ _
  have t1 : decide ((p : Int) < 0) = false := by simp
  have t2 : decide ((n : Int) < 0) = false := by simp
  have t3 : decide (s.size < p) = false := by simp; omega
  have t4 : decide ((s.size : Int) - (p : Int) < (n : Int)) = false := by simp; omega
  go_enter Try.func51, Try.ntmps51
  go_wp2_with (first
    | (go_at_call 62; go_must (refine (hcall _).mono ?_); rintro e w1 ⟨hw1, b1⟩; replace hb := next hb b1; rcases wh_ways hw1 with ⟨D, rfl, HR⟩ | ⟨D, rfl, HM, HF, HR⟩ | ⟨D, rfl, HM, HT, HS, HR⟩ <;> clear hw1 b1)
    | (go_at_call 57; go_must (first | refine (may4_at t D false _ HM.out HF.out).mono ?_ | refine (may4_at t D true _ HM.out HT.out).mono ?_); rintro e w2 ⟨rfl, b2⟩; replace hb := next hb (below_drew b2); clear b2)
    | (go_at_call 63; go_must (refine (clone_any D _ (by have := HS.out; omega)).mono ?_); rintro e w3 ⟨rfl, b3⟩; replace hb := next hb b3; clear b3))
  · go_ret2
    exact ⟨ret_dt HR.out rfl, hb⟩
  · go_ret2
    exact ⟨ret_dt HR.out rfl, hb⟩
  · go_ret2
    exact ⟨ret_dt HR.out rfl, hb⟩

theorem cData_bad (s : ByteArray) (a b t : Int) (w : World) (hs : s.size ≤ 140737488355328) (h : a < 0 ∨ b < 0 ∨ (s.size : Int) < a + b) :
    Calls Try.prog 51 #[.string s, .int .i64 a, .int .i64 b, .int .i64 t] w fun e w' => e = .returned (dtV none) ∧ Below w.heap.size w w' := by
  by_cases h1 : a < 0
  · go_enter Try.func51, Try.ntmps51
    go_wp2
    go_ret2
    exact ⟨rfl, Below.refl _ _⟩
  · have h1' : decide (a < 0) = false := by simpa using h1
    by_cases h2 : b < 0
    · go_enter Try.func51, Try.ntmps51
      go_wp2
      go_ret2
      exact ⟨rfl, Below.refl _ _⟩
    · have h2' : decide (b < 0) = false := by simpa using h2
      by_cases h3 : (s.size : Int) < a
      · go_enter Try.func51, Try.ntmps51
        go_wp2
        go_ret2
        exact ⟨rfl, Below.refl _ _⟩
      · have h3' : decide ((s.size : Int) < a) = false := by simpa using h3
        have h4 : (s.size : Int) - a < b := by omega
        clear h
        go_enter Try.func51, Try.ntmps51
        go_wp2
        go_ret2
        exact ⟨rfl, Below.refl _ _⟩

end Go.Proofs.Ytdogjbblnjjaaab
