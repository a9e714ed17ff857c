/- What Name of package comp gives, for every argument. -/
import Derived.Test.YtdogjbblnjjaaabXP2
import Derived.StringKeys
import Derived.Maps.OwnSet
import Derived.Maps.OwnOps
import Derived.WalkSpells
namespace Go.Proofs.Ytdogjbblnjjaaab
open Go.RowKit
open Pl

/-- What Name of package comp answers. -/
def nmV : Option (List UInt8 × Nat) → Value
  | none => .tuple #[.string ⟨#[]⟩, .int .i64 0, .int .i64 500]
  | some (r, b) => .tuple #[.string ⟨r.toArray⟩, .int .i64 (b : Int), .int .i64 0]
theorem ret_nm {R R' : Option (List UInt8 × Nat)} {v : Value} (h : R = R') (hv : v = nmV R') : Ending.returned v = .returned (nmV R) := by rw [h, hv]

/-- The five ways behind walk. -/
def Ways (s : ByteArray) (p : Nat) (o : List UInt8) (x : Option Nat) (R : Option (List UInt8 × Nat)) (e : Ending) : Prop :=
  (∃ E, e = .returned (.tuple #[.int .i64 E, .bool false]) ∧ Hid (R = none)) ∨
  (∃ (q : Nat) (_ : q < s.size), e = .returned (.tuple #[.int .i64 (q : Int), .bool true]) ∧ p ≤ q ∧ Hid (o.length + (q - p) ≤ 254) ∧ ((s[q].toNat : Int) == 0) = true ∧ Hid (R = some (o ++ ((s.data.toList.drop p).take (q - p) ++ [0]), x.getD (q + 1)))) ∨
  (∃ (q : Nat) (_ : q < s.size), e = .returned (.tuple #[.int .i64 (q : Int), .bool true]) ∧ p ≤ q ∧ Hid (o.length + (q - p) ≤ 254) ∧ ((s[q].toNat : Int) == 0) = false ∧ Hid (s[q].toNat ≤ 191 ∨ s.size < q + 2) ∧ Hid (R = none)) ∨
  (∃ (q : Nat) (_ : q < s.size) (_ : q + 2 ≤ s.size) (T : Nat), e = .returned (.tuple #[.int .i64 (q : Int), .bool true]) ∧ p ≤ q ∧ Hid (o.length + (q - p) ≤ 254) ∧ ((s[q].toNat : Int) == 0) = false ∧ 191 < s[q].toNat ∧ p ≤ T ∧ Hid (T = ptrAt s.data.toList q) ∧ Hid (R = none)) ∨
  (∃ (q : Nat) (_ : q < s.size) (_ : q + 2 ≤ s.size) (T : Nat), e = .returned (.tuple #[.int .i64 (q : Int), .bool true]) ∧ p ≤ q ∧ Hid (o.length + (q - p) ≤ 254) ∧ ((s[q].toNat : Int) == 0) = false ∧ 191 < s[q].toNat ∧ decide (p ≤ T) = false ∧ Hid (T = ptrAt s.data.toList q) ∧
    Hid (RAt s.data.toList T T (o ++ (s.data.toList.drop p).take (q - p)) (some (x.getD (q + 2))) R) ∧ Hid (Labs (o ++ (s.data.toList.drop p).take (q - p))))

theorem ways {s : ByteArray} {p : Nat} {o : List UInt8} {x : Option Nat} {R : Option (List UInt8 × Nat)} {e : Ending} (h : WkE s.data.toList p p o x R e) : Ways s p o x R e := by
  obtain ⟨E, b, rfl, h1, h2⟩ := h
  cases b with
  | false => exact .inl ⟨E, rfl, h1 rfl⟩
  | true =>
    obtain ⟨q, hq, rfl, hp, hr, hlab, hl, hk⟩ := h2 rfl
    have hqs : q < s.size := by rw [← data_len]; exact hq
    have hlen : (o ++ (s.data.toList.drop p).take (q - p)).length = o.length + (q - p) := wk_len (by omega) hp
    have hg : s.data.toList[q] = s[q] := rfl
    rw [hg] at hk
    by_cases h0 : s[q].toNat = 0
    · exact .inr (.inl ⟨q, hqs, rfl, hp, hl, by simp [h0], by unfold Hid; rw [← List.append_assoc]; exact r_zero hr hq h0 (by omega)⟩)
    · have h0' : ((s[q].toNat : Int) == 0) = false := by simpa using h0
      by_cases h1 : s[q].toNat ≤ 191
      · exact .inr (.inr (.inl ⟨q, hqs, rfl, hp, hl, h0', .inl h1, r_bad hr hq (by rw [hg]; omega) h1⟩))
      · by_cases h2 : q + 2 ≤ s.size
        · by_cases h3 : ptrAt s.data.toList q < p
          · exact .inr (.inr (.inr (.inr ⟨q, hqs, h2, _, rfl, hp, hl, h0', by omega, by simp; omega, rfl, r_ptr hr hq (by rw [hg]; omega) (by rw [data_len]; exact h2) h3, hlab⟩)))
          · exact .inr (.inr (.inr (.inl ⟨q, hqs, h2, _, rfl, hp, hl, h0', by omega, by omega, rfl, r_ptr_no hr hq (by rw [hg]; omega) (.inr (by omega))⟩)))
        · exact .inr (.inr (.inl ⟨q, hqs, rfl, hp, hl, h0', .inr (by omega), r_ptr_no hr hq (by rw [hg]; omega) (.inl (by rw [data_len]; omega))⟩))

theorem row_form {w : World} {base e n : Nat} {v : Value} {xs : List Value} (h : w.ownsRow base e 1 v n xs) (hv : ¬ v = .slice none 0 0) : ∃ g cap, v = .slice (some ⟨g, 0, none⟩) n cap := by
  rcases h.2 with ⟨h1, _⟩ | ⟨g, cap, cur, h1, _⟩
  · exact absurd h1 hv
  · exact ⟨g, cap, h1⟩
theorem own_drew {w w' : World} {base e z n : Nat} {v : Value} {xs : List Value} (h : w.ownsRow base e z v n xs) (hd : ∃ m, w' = w.drewN m) : w'.ownsRow base e z v n xs := by
  obtain ⟨m, rfl⟩ := hd; exact h
theorem str_ext (s : ByteArray) (i j : Nat) : Lib.strCells (s.extract i j) = ((s.data.toList.drop i).take (j - i)).map bv := by
  show (s.extract i j).data.toList.map bv = _
  rw [ext_list]
theorem ext_size (s : ByteArray) (p q : Nat) (hp : p ≤ q) (hq : q ≤ s.size) : (s.extract p q).size = q - p := by simp; omega
theorem cut_both (s : ByteArray) (i j : Nat) (h : i ≤ j) (hj : j ≤ s.size) (u : World) : (Instr.slice 9 (.string s) (some (.int .i64 (i : Int))) (some (.int .i64 (j : Int))) none).run Try.prog u = .ok (.string (s.extract i j)) u := by
  have := run_slice_string (P := Try.prog) u 9 s .i64 .i64 (i : Int) (j : Int) Try.underlying9 (by omega) (by omega) (by omega)
  rw [this]; rfl

set_option maxRecDepth 20000 in
set_option maxHeartbeats 1000000 in
theorem cName_any (s : ByteArray) (p : Nat) (w : World) (hs : s.size ≤ 140737488355328) :
    Calls Try.prog 49 #[.string s, .int .i64 (p : Int)] w fun e w' => e = .returned (nmV (nameOf s.data.toList p)) ∧ Below w.heap.size w w' := by
  obtain ⟨i0, hi, hz0, hz1, hz2⟩ := info_parts info5
  have HST : Hid (RAt s.data.toList p p [] none (nameOf s.data.toList p)) := r_start _ _
  obtain ⟨R, hR⟩ : ∃ R, R = nameOf s.data.toList p := ⟨_, rfl⟩
  rw [← hR] at HST ⊢
  clear hR
  have hb : Below w.heap.size w w := Below.refl _ _
  go_enter Try.func49, Try.ntmps49
  go_wp2_with (at_make; refine wpList_make_own _ rfl _ _ 27 rfl w.heap.size 5 i0 (.int .u8 0) 1 Try.underlying27 hi hz0 hz1 .i64 .i64 _ 255 rfl rfl rfl (by rw [hz2]; omega) (by unfold maxLen; omega) hb.size ?_; intro w2 hown hgrow; replace hb := next hb (below_of hgrow); clear hgrow)
  go_loopw [7, 8, 9] (fun v st be wr => ∃ (g cap n p b : Nat) (o : List UInt8) (x : Option Nat), v = .slice (some ⟨g, 0, none⟩) n cap ∧ st = .int .i64 (p : Int) ∧ be = .int .i64 (b : Int) ∧ n ≤ 254 ∧ b ≤ 140737488355330 ∧ Hid (n = o.length) ∧ Hid (b = x.getD 0) ∧ Hid (∀ y, x = some y → 0 < y) ∧ Hid (RAt s.data.toList p p o x R) ∧ Hid (Labs o) ∧ wr.ownsRow w.heap.size 5 1 v n (o.map bv) ∧ Below w.heap.size w wr) (fun _ st _ _ => (intOf st).toNat)
  case atStart => exact ⟨_, _, 0, p, 0, [], none, rfl, rfl, rfl, by decide, by decide, rfl, rfl, fun y hy => by simp at hy, HST, labs_nil, hown, hb⟩
  case round =>
    clear hown hb HST
    obtain ⟨g, cap, n, p, b, o, x, rfl, rfl, rfl, hn, hb47, HN, HB, HX, HR, HL, hown, hb⟩ := hrel
    have hwk := fun u => walk_any s p p o x R (254 - (n : Int)) u hs (by rw [HN.out]) (by rw [← HN.out]; exact hn) HR.out HL.out
    have HWK : Hid (∀ u, Calls Try.prog 60 #[.string s, .int .i64 (p : Int), .int .i64 (254 - (n : Int))] u fun e w' => WkE s.data.toList p p o x R e ∧ w' = u) := hwk
    clear hwk HR
    have hxb : (x = none ∧ ((b : Int) == 0) = true) ∨ (x = some b ∧ ((b : Int) == 0) = false) := by
      cases x with
      | none => exact .inl ⟨rfl, by have := HB.out; simp at this ⊢; exact this⟩
      | some y => have e : b = y := HB.out; have := HX.out y rfl; exact .inr ⟨by rw [e], by simp; omega⟩
    clear HB HX
    rcases hxb with ⟨rfl, hbz⟩ | ⟨rfl, hbz⟩
    all_goals
      go_wp2_with (first
        | (go_at_call 60; go_must (refine (HWK.out _).mono ?_); rintro e w' ⟨hwk, hw⟩; obtain rfl := hw.symm; rcases ways hwk with ⟨E, rfl, HR⟩ | ⟨q, hq, rfl, hpq, HLQ, h0, HR⟩ | ⟨q, hq, rfl, hpq, HLQ, h0, HNO, HR⟩ | ⟨q, hq, hq2, T, rfl, hpq, HLQ, h0, h3, hge, HT, HR⟩ | ⟨q, hq, hq2, T, rfl, hpq, HLQ, h0, h3, hge, HT, HR, HL2⟩ <;> clear hwk)
        | (at_builtin; have _t := HL; refine Lib.wpList_append_own_string _ rfl (.tmp 28) (.tmp 32) 27 9 rfl w.heap.size 5 i0 Try.underlying27 Try.underlying9 hi hz0 hz1 hz2 (.slice (some ⟨g, 0, none⟩) n cap) n _ rfl hown (s.extract p q) rfl (by rw [ext_size s p q hpq (by omega)]; have := HLQ.out; unfold maxLen; omega) (by rw [ext_size s p q hpq (by omega)]; have := HLQ.out; omega) hb.size ?_; intro v1 w1 own1 grow1 nil1; rw [ext_size s p q hpq (by omega), str_ext] at own1; obtain ⟨g1, cap1, rfl⟩ := row_form own1 (fun e => absurd (nil1.1 e).1 (by simp)); replace hb := hb.grown grow1 hb.size (fun k e => (hown.lt k e).1); have hle : n + (q - p) ≤ 254 := (by rw [HN.out]; exact HLQ.out); clear HL hown grow1 nil1 HLQ)
        | (at_builtin; refine Lib.wpList_append_own_string _ rfl (.tmp 42) (.const (.string ⟨#[0]⟩)) 27 9 rfl w.heap.size 5 i0 Try.underlying27 Try.underlying9 hi hz0 hz1 hz2 _ (n + (q - p)) _ rfl own1 ⟨#[0]⟩ rfl (by unfold maxLen; show n + (q - p) + 1 ≤ _; omega) (by show n + (q - p) + 1 ≤ _; omega) hb.size ?_; intro v2 w2 own2 grow2 nil2; replace hb := hb.grown grow2 hb.size (fun k e => (own1.lt k e).1); have own3 : w2.ownsRow w.heap.size 5 1 v2 (n + (q - p) + 1) ((o ++ ((s.data.toList.drop p).take (q - p) ++ [0])).map bv) := (by rw [← List.append_assoc, List.map_append, List.map_append]; exact own2); clear own1 own2 grow2 nil2)
        | (refine wpList_string _ rfl (.tmp 43) rfl w.heap.size (n + (q - p) + 1) _ _ rfl own3 ?_)
        | (go_at_call 61; go_must (first | refine (target_no s q _ hs hq HNO.out).mono ?_ | refine (target_yes s q _ hs hq2 h3).mono ?_); first | (rintro e w2 ⟨rfl, hw⟩; obtain rfl := hw.symm) | (rw [← HT.out]; rintro e w2 ⟨rfl, hw⟩; replace own1 := own_drew own1 hw; replace hb := next hb (below_drew hw); clear hw)))
      · go_ret3
        exact ⟨ret_nm HR.out rfl, hb⟩
      · go_ret3
        exact ⟨ret_nm HR.out rfl, hb⟩
      · go_ret3
        exact ⟨ret_nm HR.out rfl, hb⟩
      · go_ret3
        exact ⟨ret_nm HR.out rfl, hb⟩
      · go_roundw
        case rel =>
          first
          | exact ⟨g1, cap1, n + (q - p), T, q + 2, _, some (q + 2), rfl, rfl, by go_num, hle, by omega, by unfold Hid; rw [wk_len (by rw [data_len]; omega) hpq, HN.out], by unfold Hid; rfl, fun y hy => by simp at hy; omega, HR, HL2, by rw [List.map_append]; exact own1, hb⟩
          | exact ⟨g1, cap1, n + (q - p), T, b, _, some b, rfl, rfl, rfl, hle, hb47, by unfold Hid; rw [wk_len (by rw [data_len]; omega) hpq, HN.out], by unfold Hid; rfl, fun y hy => by simp at hy hbz; omega, HR, HL2, by rw [List.map_append]; exact own1, hb⟩
        case measure => simp [intOf]; simp at hge; omega

theorem cName_neg (s : ByteArray) (p : Int) (w : World) (h : p < 0) :
    Calls Try.prog 49 #[.string s, .int .i64 p] w fun e w' => e = .returned (nmV none) ∧ Below w.heap.size w w' := by
  go_enter Try.func49, Try.ntmps49
  go_wp2
  go_ret3
  exact ⟨rfl, Below.refl _ _⟩

end Go.Proofs.Ytdogjbblnjjaaab

/- What names, whole and Data of package comp give, for every argument. -/
namespace Go.Proofs.Ytdogjbblnjjaaab
open Go.RowKit
open Pl

/-- What names of package comp answers. -/
def nsV (E : Int) : Option (List UInt8 × Nat) → Value
  | none => .tuple #[.string ⟨#[]⟩, .bool false]
  | some (t, b) => .tuple #[.string ⟨t.toArray⟩, .bool ((b : Int) == E)]
theorem ret_ns {E : Int} {R R' : Option (List UInt8 × Nat)} {v : Value} (h : R = R') (hv : v = nsV E R') : Ending.returned v = .returned (nsV E R) := by rw [h, hv]

theorem cName_as (s : ByteArray) (p : Nat) (R : Option (List UInt8 × Nat)) (w : World) (hs : s.size ≤ 140737488355328) (h : nameOf s.data.toList p = R) :
    Calls Try.prog 49 #[.string s, .int .i64 (p : Int)] w fun e w' => e = .returned (nmV R) ∧ Below w.heap.size w w' := by rw [← h]; exact cName_any s p w hs

theorem toArr_size (l : List UInt8) : (⟨l.toArray⟩ : ByteArray).size = l.length := by simp [ByteArray.size]

set_option maxRecDepth 20000 in
theorem names_any (s : ByteArray) (p c : Nat) (E : Int) (w : World) (hs : s.size ≤ 140737488355328) (hc : c ≤ 2) :
    Calls Try.prog 69 #[.string s, .int .i64 (p : Int), .int .i64 E, .int .i64 (c : Int)] w fun e w' => e = .returned (nsV E (namesOf s.data.toList p c)) ∧ Below w.heap.size w w' := by
  obtain ⟨R, hR⟩ : ∃ R, R = namesOf s.data.toList p c := ⟨_, rfl⟩
  have HST : Hid (R = pre [] (namesOf s.data.toList p (c - 0))) := by unfold Hid; rw [pre_nil]; exact hR
  rw [← hR]
  clear hR
  have hb : Below w.heap.size w w := Below.refl _ _
  go_enter Try.func69, Try.ntmps69
  go_wp2
  go_loopw [1, 10, 15] (fun a o i wr => ∃ (k P : Nat) (O : ByteArray), k ≤ c ∧ a = .int .i64 (P : Int) ∧ o = .string O ∧ i = .int .i64 (k : Int) ∧ O.size ≤ 255 * k ∧ Hid (R = pre O.data.toList (namesOf s.data.toList P (c - k))) ∧ Below w.heap.size w wr) (fun _ _ i _ => c - (intOf i).toNat)
  case atStart => exact ⟨0, p, ⟨#[]⟩, Nat.zero_le _, rfl, rfl, rfl, by decide, HST, hb⟩
  case round =>
    clear hb HST
    obtain ⟨k, P, O, hk, rfl, rfl, rfl, hO, HR, hb⟩ := hrel
    by_cases hkc : k < c
    · have hstep : c - k = (c - (k + 1)) + 1 := by omega
      cases hn : nameOf s.data.toList P with
      | none =>
        have HN : Hid (R = none) := by unfold Hid; rw [HR.out, hstep]; exact pre_none hn
        have HNM : Hid (nameOf s.data.toList P = none) := hn
        clear hn hstep
        go_wp2_with (go_at_call 49; go_must (refine (cName_as s P none _ hs HNM.out).mono ?_); rintro e w1 ⟨rfl, b1⟩; unfold nmV; replace hb := next hb b1; clear b1)
        go_ret2
        exact ⟨ret_ns HN.out rfl, hb⟩
      | some rb =>
        obtain ⟨r, b⟩ := rb
        have hr := nameOf_some hn
        have hr255 := (name_some hr.1).1
        have HN : Hid (R = pre (O ++ ⟨r.toArray⟩).data.toList (namesOf s.data.toList b (c - (k + 1)))) := by
          unfold Hid; rw [HR.out, hstep, pre_some hn, app_list]
        have HNM : Hid (nameOf s.data.toList P = some (r, b)) := hn
        have hrs : (⟨r.toArray⟩ : ByteArray).size ≤ 255 := by rw [toArr_size]; exact hr255
        clear hn hr hr255 hstep
        obtain ⟨rr, hrr⟩ : ∃ rr : ByteArray, rr = ⟨r.toArray⟩ := ⟨_, rfl⟩
        have hcall := fun u => cName_as s P (some (r, b)) u hs HNM.out
        unfold nmV at hcall
        rw [← hrr] at HN hrs
        simp only [← hrr] at hcall
        clear hrr
        go_wp2_with (go_at_call 49; go_must (refine (hcall _).mono ?_); rintro e w1 ⟨rfl, b1⟩; replace hb := next hb b1; clear b1)
        go_roundw
        case rel => exact ⟨k + 1, b, O ++ rr, by omega, rfl, rfl, by go_num, by rw [ByteArray.size_append]; omega, HN, hb⟩
        case measure => simp [intOf]; omega
    · have e : c - k = 0 := by omega
      have HN : Hid (R = some (O.data.toList, P)) := by unfold Hid; rw [HR.out, e, namesOf, pre, List.append_nil]
      have hkc' : decide (k < c) = false := by simpa using hkc
      clear e
      go_wp2
      go_ret2
      exact ⟨ret_ns HN.out rfl, hb⟩

theorem names_as (s : ByteArray) (p c : Nat) (P E C : Int) (R : Option (List UInt8 × Nat)) (w : World) (hs : s.size ≤ 140737488355328) (hc : c ≤ 2) (hP : P = (p : Int)) (hC : C = (c : Int)) (h : namesOf s.data.toList p c = R) :
    Calls Try.prog 69 #[.string s, .int .i64 P, .int .i64 E, .int .i64 C] w fun e w' => e = .returned (nsV E R) ∧ Below w.heap.size w w' := by
  subst hP; subst hC; rw [← h]; exact names_any s p c E w hs hc

/-- What whole of package comp leaves. -/
def WhP (t : Int) (R : Option (List UInt8)) (D : ByteArray) (b : Bool) : Prop :=
  D.size ≤ 140737488355328 ∧ (b = false → R = none) ∧ (b = true → R = if mayD t D.data.toList = true then some D.data.toList else none)
/-- What whole of package comp gives. -/
def WhE (t : Int) (R : Option (List UInt8)) (e : Ending) : Prop := ∃ D b, e = .returned (.tuple #[.string D, .bool b]) ∧ WhP t R D b

theorem wh_n {l : List UInt8} {p n : Nat} {t : Int} {R : Option (List UInt8 × Nat)} (h : t = 2 ∨ t = 5 ∨ t = 12) (hR : namesOf l p 1 = R) : WhE t (dataOf l p n t) (.returned (nsV ((p + n : Nat) : Int) R)) := by
  rw [names_one] at hR
  rw [data_n h, hR]
  cases R with
  | none => exact ⟨_, _, rfl, by decide, fun _ => rfl, fun e => by simp at e⟩
  | some z =>
    obtain ⟨r, b⟩ := z
    have hn := (nameOf_some hR).1
    have h255 := (name_some hn).1
    refine ⟨_, _, rfl, by rw [toArr_size]; omega, fun e => ?_, fun e => ?_⟩
    · have e' : b ≠ p + n := by simp at e; omega
      rw [dtN, if_neg e']
    · have e' : b = p + n := by simp at e; omega
      rw [dtN, if_pos e', may_n h, if_pos hn, List.nil_append]
theorem wh_15 {l : List UInt8} {p n : Nat} {R : Option (List UInt8 × Nat)} {D : ByteArray} (hn : 2 ≤ n) (hpn : p + n ≤ l.length) (hR : namesOf l (p + 2) 1 = R) (hl : D.data.toList = (l.drop p).take 2) : ∃ H b, nsV ((p + n : Nat) : Int) R = .tuple #[.string H, .bool b] ∧ H.size ≤ 255 ∧ Hid (WhP 15 (dataOf l p n 15) (D ++ H) b) := by
  rw [names_one] at hR
  rw [data_15, if_neg (by omega), hR]
  have hd2 : D.data.toList.length = 2 := by rw [hl, List.length_take, List.length_drop]; omega
  have hds : D.size = 2 := by rw [← data_len]; exact hd2
  cases R with
  | none => exact ⟨⟨#[]⟩, false, rfl, by decide, by rw [ByteArray.size_append, hds]; decide, fun _ => rfl, fun e => by simp at e⟩
  | some z =>
    obtain ⟨r, b⟩ := z
    have hn := (nameOf_some hR).1
    have h255 := (name_some hn).1
    have hne := name_ne hn
    have hrs := toArr_size r
    refine ⟨_, _, rfl, by rw [hrs]; exact h255, by rw [ByteArray.size_append, hds, hrs]; omega, fun e => ?_, fun e => ?_⟩
    · have e' : b ≠ p + n := by simp at e; omega
      rw [dtN, if_neg e']
    · have e' : b = p + n := by simp at e; omega
      have hm : mayD 15 (D ++ (⟨r.toArray⟩ : ByteArray)).data.toList = true := by
        rw [may_15, app_list, List.length_append]
        have hdr : (D.data.toList ++ (⟨r.toArray⟩ : ByteArray).data.toList).drop 2 = r := by rw [← hd2, List.drop_left]
        rw [hdr, hn, hd2]
        simp; omega
      rw [hm, dtN, if_pos e', if_pos rfl, app_list, hl]
theorem wh_6 {l : List UInt8} {p n : Nat} {E : Int} {R : Option (List UInt8 × Nat)} {D : ByteArray} (hn : 20 ≤ n) (hpn : p + n ≤ l.length) (hE : E = ((p + n - 20 : Nat) : Int)) (hR : namesOf l p 2 = R) (hl : D.data.toList = (l.drop (p + n - 20)).take 20) : ∃ H b, nsV E R = .tuple #[.string H, .bool b] ∧ H.size ≤ 510 ∧ Hid (WhP 6 (dataOf l p n 6) (H ++ D) b) := by
  subst hE
  rw [data_6]
  have hd2 : D.data.toList.length = 20 := by rw [hl, List.length_take, List.length_drop]; omega
  have hds : D.size = 20 := by rw [← data_len]; exact hd2
  have bad : ∀ X : Option (List UInt8), X = none → ∃ H b, nsV ((p + n - 20 : Nat) : Int) none = .tuple #[.string H, .bool b] ∧ H.size ≤ 510 ∧ Hid (WhP 6 X (H ++ D) b) := fun X hX => ⟨⟨#[]⟩, false, rfl, by decide, by rw [ByteArray.size_append, hds]; decide, fun _ => hX, fun e => by simp at e⟩
  cases h1 : nameOf l p with
  | none =>
    have e := pre_none (O := []) (c := 1) h1
    rw [pre_nil] at e
    rw [← hR, e]; exact bad _ rfl
  | some z =>
    obtain ⟨r, b⟩ := z
    have e := pre_some (O := []) (c := 1) h1
    rw [pre_nil, names_one] at e
    rw [← hR, e, dtS]
    cases h2 : nameOf l b with
    | none => exact bad _ rfl
    | some z =>
      obtain ⟨r2, b2⟩ := z
      have n1 := (nameOf_some h1).1
      have n2 := (nameOf_some h2).1
      have l1 := (name_some n1).1
      have l2 := (name_some n2).1
      have hrs := toArr_size (r ++ r2)
      rw [List.length_append] at hrs
      rw [List.nil_append, pre, dtS2]
      refine ⟨⟨(r ++ r2).toArray⟩, _, rfl, by omega, by rw [ByteArray.size_append, hds, hrs]; omega, fun e => ?_, fun e => ?_⟩
      · have e' : ¬ b2 + 20 = p + n := by simp at e; omega
        rw [if_neg e']
      · have e' : b2 + 20 = p + n := by simp at e; omega
        have e2 : b2 = p + n - 20 := by omega
        have hm : mayD 6 ((⟨(r ++ r2).toArray⟩ : ByteArray) ++ D).data.toList = true := by
          rw [may_6, app_list, hl]
          show (soaL (r ++ r2 ++ _)).isSome = true
          rw [List.append_assoc, soa_names n1 n2, ← hl, if_pos hd2]; rfl
        rw [hm, if_pos e', if_pos rfl, app_list, hl, e2]
        show some (r ++ (r2 ++ _)) = some (r ++ r2 ++ _)
        rw [List.append_assoc]

set_option maxRecDepth 20000 in
theorem whole_any5 (s : ByteArray) (p n : Nat) (E t : Int) (w : World) (hs : s.size ≤ 140737488355328) (hpn : p + n ≤ s.size) (hE : E = (p : Int) + (n : Int)) :
    Calls Try.prog 62 #[.string s, .int .i64 (p : Int), .int .i64 E, .int .i64 t] w fun e w' => WhE t (dataOf s.data.toList p n t) e ∧ Below w.heap.size w w' := by
  have hl := data_len s
  have hEn : E = ((p + n : Nat) : Int) := by omega
  have HEN : Hid (E = ((p + n : Nat) : Int)) := hEn
  have hEb : E ≤ 140737488355328 := by omega
  have hEb0 : (p : Int) ≤ E := by omega
  clear hE
  by_cases h1 : t = 2 ∨ t = 5 ∨ t = 12
  · have HW : Hid (WhE t (dataOf s.data.toList p n t) (.returned (nsV E (namesOf s.data.toList p 1)))) := by unfold Hid; rw [hEn]; exact wh_n h1 rfl
    have hcall := fun u => names_any s p 1 E u hs (by decide)
    clear hEn
    rcases h1 with rfl | rfl | rfl
    all_goals
      go_enter Try.func62, Try.ntmps62
      go_wp2_with (go_at_call 69; go_must (refine (hcall _).mono ?_); rintro e w1 ⟨he, b1⟩; subst he; revert HW; cases hR : namesOf s.data.toList p 1 <;> (intro HW; unfold nsV at HW ⊢))
      all_goals
        go_ret2
        exact ⟨HW.out, b1⟩
  · by_cases h2 : t = 15
    · subst h2
      by_cases hn : n < 2
      · have hn' : E - (p : Int) < 2 := by omega
        have HR : Hid (dataOf s.data.toList p n 15 = none) := by unfold Hid; rw [data_15, if_pos hn]
        clear hEn
        go_enter Try.func62, Try.ntmps62
        go_wp2
        go_ret2
        exact ⟨⟨_, _, rfl, by decide, fun _ => HR.out, fun e => by simp at e⟩, Below.refl _ _⟩
      · have hn' : decide (E - (p : Int) < 2) = false := by simp; omega
        obtain ⟨D, hD⟩ : ∃ D, D = s.extract p (p + 2) := ⟨_, rfl⟩
        have hDl : D.data.toList = (s.data.toList.drop p).take 2 := by rw [hD, ext_list, show p + 2 - p = 2 from by omega]
        obtain ⟨H, b, hv, hH, HW⟩ := wh_15 (n := n) (R := namesOf s.data.toList (p + 2) 1) (by omega) (by rw [hl]; exact hpn) rfl hDl
        have hcut := cut_both s p (p + 2) (by omega) (by omega)
        rw [show ((p + 2 : Nat) : Int) = (p : Int) + 2 from by omega, ← hD] at hcut
        have hcall := fun u => names_as s (p + 2) 1 ((p : Int) + 2) E 1 _ u hs (by decide) (by omega) rfl rfl
        rw [← hEn] at hv
        rw [hv] at hcall
        have hDs : D.size = 2 := by rw [← data_len, hDl, List.length_take, List.length_drop]; omega
        clear hEn hv hD hDl
        go_enter Try.func62, Try.ntmps62
        go_wp2_with (go_at_call 69; go_must (refine (hcall _).mono ?_); rintro e w1 ⟨rfl, b1⟩)
        go_ret2
        exact ⟨⟨_, _, rfl, HW.out⟩, b1⟩
    · have h2' : (t == 15) = false := by simpa using h2
      have g1 : (t == 2) = false := by simp; omega
      have g2 : (t == 5) = false := by simp; omega
      have g3 : (t == 12) = false := by simp; omega
      by_cases h3 : t = 6
      · subst h3
        by_cases hn : n < 20
        · have hn' : E - (p : Int) < 20 := by omega
          have HR : Hid (dataOf s.data.toList p n 6 = none) := data_6_short hn
          clear hEn
          go_enter Try.func62, Try.ntmps62
          go_wp2
          go_ret2
          exact ⟨⟨_, _, rfl, by decide, fun _ => HR.out, fun e => by simp at e⟩, Below.refl _ _⟩
        · have hn' : decide (E - (p : Int) < 20) = false := by simp; omega
          obtain ⟨D, hD⟩ : ∃ D, D = s.extract (p + n - 20) (p + n) := ⟨_, rfl⟩
          have hDl : D.data.toList = (s.data.toList.drop (p + n - 20)).take 20 := by rw [hD, ext_list, show p + n - (p + n - 20) = 20 from by omega]
          obtain ⟨H, b, hv, hH, HW⟩ := wh_6 (E := E - 20) (R := namesOf s.data.toList p 2) (by omega) (by rw [hl]; exact hpn) (by omega) rfl hDl
          have hcut := cut_both s (p + n - 20) (p + n) (by omega) (by omega)
          rw [show ((p + n - 20 : Nat) : Int) = E - 20 from by omega, ← hEn, ← hD] at hcut
          have hcall := fun u => names_as s p 2 (p : Int) (E - 20) 2 _ u hs (by decide) rfl rfl rfl
          rw [hv] at hcall
          have hDs : D.size = 20 := by rw [← data_len, hDl, List.length_take, List.length_drop]; omega
          clear hEn hv hD hDl
          go_enter Try.func62, Try.ntmps62
          go_wp2_with (go_at_call 69; go_must (refine (hcall _).mono ?_); rintro e w1 ⟨rfl, b1⟩)
          go_ret2
          exact ⟨⟨_, _, rfl, HW.out⟩, b1⟩
      · have h3' : (t == 6) = false := by simpa using h3
        have hcut := cut_both s p (p + n) (by omega) hpn
        rw [← hEn] at hcut
        obtain ⟨D, hD⟩ : ∃ D, D = s.extract p (p + n) := ⟨_, rfl⟩
        have hDl : D.data.toList = (s.data.toList.drop p).take n := by rw [hD, ext_list, show p + n - p = n from by omega]
        have HW : Hid (WhP t (dataOf s.data.toList p n t) D true) := ⟨by rw [hD, ext_size s p (p + n) (by omega) hpn]; omega, fun e => by simp at e, fun _ => by rw [data_o h1 h2 h3, hDl]⟩
        rw [← hD] at hcut
        clear hEn hD hDl h1 h2 h3
        go_enter Try.func62, Try.ntmps62
        go_wp2
        go_ret2
        exact ⟨⟨_, _, rfl, HW.out⟩, Below.refl _ _⟩

/-- What Data of package comp answers. -/
def dtV : Option (List UInt8) → Value
  | none => .tuple #[.string ⟨#[]⟩, .int .i64 500]
  | some d => .tuple #[.string ⟨d.toArray⟩, .int .i64 0]
theorem ret_dt {R R' : Option (List UInt8)} {v : Value} (h : R = R') (hv : v = dtV R') : Ending.returned v = .returned (dtV R) := by rw [h, hv]

/-- The three ways behind whole. -/
theorem wh_ways {t : Int} {R : Option (List UInt8)} {e : Ending} (h : WhE t R e) :
    (∃ D, e = .returned (.tuple #[.string D, .bool false]) ∧ Hid (R = none)) ∨ (∃ D, e = .returned (.tuple #[.string D, .bool true]) ∧ Hid (D.size ≤ maxLen) ∧ Hid (mayD t D.data.toList = false) ∧ Hid (R = none)) ∨
    (∃ D, e = .returned (.tuple #[.string D, .bool true]) ∧ Hid (D.size ≤ maxLen) ∧ Hid (mayD t D.data.toList = true) ∧ Hid (D.size ≤ 65535) ∧ Hid (R = some D.data.toList)) := by
  obtain ⟨D, b, rfl, h0, h1, h2⟩ := h
  cases b with
  | false => exact .inl ⟨D, rfl, h1 rfl⟩
  | true =>
    have h3 := h2 rfl
    cases hm : mayD t D.data.toList with
    | false => exact .inr (.inl ⟨D, rfl, max_of h0, hm, by rw [h3, hm]; unfold Hid; rfl⟩)
    | true =>
      refine .inr (.inr ⟨D, rfl, max_of h0, hm, ?_, by rw [h3, hm]; unfold Hid; rfl⟩)
      unfold Hid
      apply Classical.byContradiction
      intro hc
      rw [may_long t (by rw [data_len]; omega)] at hm
      simp at hm
theorem may4_at (t : Int) (s : ByteArray) (r : Bool) (w : World) (hs : s.size ≤ maxLen) (h : mayD t s.data.toList = r) :
    Calls Try.prog 57 #[.int .i64 t, .string s] w fun e w' => e = .returned (.bool r) ∧ ∃ m, w' = w.drewN m := by rw [← h]; exact may4_any t s w hs

set_option maxRecDepth 20000 in
theorem cData_any (s : ByteArray) (p n : Nat) (t : Int) (w : World) (hs : s.size ≤ 140737488355328) (hpn : p + n ≤ s.size) :
    Calls Try.prog 51 #[.string s, .int .i64 (p : Int), .int .i64 (n : Int), .int .i64 t] w fun e w' => e = .returned (dtV (dataOf s.data.toList p n t)) ∧ Below w.heap.size w w' := by
  obtain ⟨R, hR⟩ : ∃ R, R = dataOf s.data.toList p n t := ⟨_, rfl⟩
  have hcall := fun u => whole_any5 s p n ((p : Int) + (n : Int)) t u hs hpn rfl
  rw [← hR] at hcall ⊢
  clear hR
  have hb : Below w.heap.size w w := Below.refl _ _
  have t1 : decide ((p : Int) < 0) = false := by simp
  have t2 : decide ((n : Int) < 0) = false := by simp
  have t3 : decide (s.size < p) = false := by simp; omega
  have t4 : decide ((s.size : Int) - (p : Int) < (n : Int)) = false := by simp; omega
  go_enter Try.func51, Try.ntmps51
  go_wp2_with (first
    | (go_at_call 62; go_must (refine (hcall _).mono ?_); rintro e w1 ⟨hw1, b1⟩; replace hb := next hb b1; rcases wh_ways hw1 with ⟨D, rfl, HR⟩ | ⟨D, rfl, HM, HF, HR⟩ | ⟨D, rfl, HM, HT, HS, HR⟩ <;> clear hw1 b1)
    | (go_at_call 57; go_must (first | refine (may4_at t D false _ HM.out HF.out).mono ?_ | refine (may4_at t D true _ HM.out HT.out).mono ?_); rintro e w2 ⟨rfl, b2⟩; replace hb := next hb (below_drew b2); clear b2)
    | (go_at_call 63; go_must (refine (clone_any D _ (by have := HS.out; omega)).mono ?_); rintro e w3 ⟨rfl, b3⟩; replace hb := next hb b3; clear b3))
  · go_ret2
    exact ⟨ret_dt HR.out rfl, hb⟩
  · go_ret2
    exact ⟨ret_dt HR.out rfl, hb⟩
  · go_ret2
    exact ⟨ret_dt HR.out rfl, hb⟩

theorem cData_bad (s : ByteArray) (a b t : Int) (w : World) (hs : s.size ≤ 140737488355328) (h : a < 0 ∨ b < 0 ∨ (s.size : Int) < a + b) :
    Calls Try.prog 51 #[.string s, .int .i64 a, .int .i64 b, .int .i64 t] w fun e w' => e = .returned (dtV none) ∧ Below w.heap.size w w' := by
  by_cases h1 : a < 0
  · go_enter Try.func51, Try.ntmps51
    go_wp2
    go_ret2
    exact ⟨rfl, Below.refl _ _⟩
  · have h1' : decide (a < 0) = false := by simpa using h1
    by_cases h2 : b < 0
    · go_enter Try.func51, Try.ntmps51
      go_wp2
      go_ret2
      exact ⟨rfl, Below.refl _ _⟩
    · have h2' : decide (b < 0) = false := by simpa using h2
      by_cases h3 : (s.size : Int) < a
      · go_enter Try.func51, Try.ntmps51
        go_wp2
        go_ret2
        exact ⟨rfl, Below.refl _ _⟩
      · have h3' : decide ((s.size : Int) < a) = false := by simpa using h3
        have h4 : (s.size : Int) - a < b := by omega
        clear h
        go_enter Try.func51, Try.ntmps51
        go_wp2
        go_ret2
        exact ⟨rfl, Below.refl _ _⟩

end Go.Proofs.Ytdogjbblnjjaaab

/- A Writer of package comp as it lies in memory; what New, room, Raw, All and keep give. -/
namespace Go.Proofs.Ytdogjbblnjjaaab
open Go.RowKit
open Pl

/-- A block as it was laid. -/
def Blk (w : World) (g : Nat) (C : Array Value) (t : TypeId) : Prop := w.heap[g]? = some (.cells C t (0, 0))
theorem Blk.cell {w : World} {g : Nat} {C : Array Value} {t : TypeId} (h : Blk w g C t) (i : Nat) : w.cell? ⟨g, i, none⟩ = C[i]? := cell_of_row w g i C t _ h
theorem Blk.frozen {w : World} {g : Nat} {C : Array Value} {t : TypeId} (h : Blk w g C t) (i : Nat) : w.frozen? ⟨g, i, none⟩ = false := by
  unfold Blk at h
  simp only [World.frozen?, h]
  simp
theorem Blk.drew {w w' : World} {g : Nat} {C : Array Value} {t : TypeId} (h : Blk w g C t) (hd : ∃ m, w' = w.drewN m) : Blk w' g C t := by
  obtain ⟨m, rfl⟩ := hd; exact h
theorem Blk.lt {w : World} {g : Nat} {C : Array Value} {t : TypeId} (h : Blk w g C t) : g < w.heap.size := (Array.getElem?_eq_some_iff.1 h).1
theorem Blk.below {w w' : World} {g : Nat} {C : Array Value} {t : TypeId} (h : Blk w g C t) (hb : Below w.heap.size w w') : Blk w' g C t := by
  unfold Blk; rw [hb.block g h.lt]; exact h
theorem Blk.alloc {w : World} {g : Nat} {C : Array Value} {t : TypeId} (h : Blk w g C t) (o : Obj) : Blk (w.alloc o) g C t := h.below ((Below.refl _ _).alloc (Nat.le_refl _) o)
theorem Blk.new (w : World) (C : Array Value) (t : TypeId) : Blk (w.alloc (.cells C t)) w.heap.size C t := heap_alloc_new w _
theorem Blk.set {w : World} {g : Nat} {C : Array Value} {t : TypeId} (h : Blk w g C t) (i : Nat) (v : Value) : Blk (w.setCell ⟨g, i, none⟩ v) g (C.setIfInBounds i v) t := heap_setCell_same w g i C t v h
theorem Blk.other {w : World} {g b : Nat} {C : Array Value} {t : TypeId} (h : Blk w g C t) (hb : g ≠ b) (i : Nat) (v : Value) : Blk (w.setCell ⟨b, i, none⟩ v) g C t := by
  unfold Blk; rw [heap_setCell_other w ⟨b, i, none⟩ g v hb]; exact h
theorem Blk.grown {w w' : World} {g : Nat} {C : Array Value} {t : TypeId} {row : Option Nat} (h : Blk w g C t) (hg : w.grownBy w' row) (hne : some g ≠ row) : Blk w' g C t := by
  unfold Blk; rw [hg.block g h.lt hne]; exact h

/-- All that lay in w lies in w' as it lay, but for the blocks of S. -/
structure Turn (S : Nat → Prop) (w w' : World) : Prop where
  os : w'.os = w.os
  tape : w'.tape = w.tape
  output : w'.output = w.output
  size : w.heap.size ≤ w'.heap.size
  block : ∀ k, k < w.heap.size → ¬ S k → w'.heap[k]? = w.heap[k]?
theorem Turn.refl (S : Nat → Prop) (w : World) : Turn S w w := ⟨rfl, rfl, rfl, Nat.le_refl _, fun _ _ _ => rfl⟩
theorem Turn.of_below {S : Nat → Prop} {w w' : World} (h : Below w.heap.size w w') : Turn S w w' := ⟨h.os, h.tape, h.output, h.size, fun k hk _ => h.block k hk⟩
theorem Turn.of_grown {S : Nat → Prop} {w w' : World} {row : Option Nat} (h : w.grownBy w' row) (hr : ∀ k, row = some k → S k) : Turn S w w' :=
  ⟨h.os, h.tape, h.output, h.size, fun k hk hs => h.block k hk (fun e => hs (hr k e.symm))⟩
theorem Turn.of_set {S : Nat → Prop} (w : World) {p : Addr} (hp : S p.block) (v : Value) : Turn S w (w.setCell p v) :=
  ⟨rfl, rfl, rfl, by simp, fun k _ hs => Below.heap_setCell w p v k (fun e => hs (e ▸ hp))⟩
theorem Turn.trans {S S' : Nat → Prop} {a b c : World} (h : Turn S a b) (k : Turn S' b c) (hs : ∀ i, S' i → S i ∨ a.heap.size ≤ i) : Turn S a c :=
  ⟨k.os.trans h.os, k.tape.trans h.tape, k.output.trans h.output, Nat.le_trans h.size k.size, fun i hi hn =>
    (k.block i (Nat.lt_of_lt_of_le hi h.size) (fun e => (hs i e).elim hn (fun g => by omega))).trans (h.block i hi hn)⟩
theorem Turn.below {S : Nat → Prop} {w a b : World} {B : Nat} (hb : Below B w a) (h : Turn S a b) (hB : B ≤ a.heap.size) (hs : ∀ i, S i → B ≤ i) : Below B w b :=
  ⟨h.os.trans hb.os, h.tape.trans hb.tape, h.output.trans hb.output, Nat.le_trans hb.size h.size, fun k hk => (h.block k (by omega) (fun e => by have := hs k e; omega)).trans (hb.block k hk)⟩
theorem Turn.blk {S : Nat → Prop} {w w' : World} {g : Nat} {C : Array Value} {t : TypeId} (h : Turn S w w') (hb : Blk w g C t) (hs : ¬ S g) : Blk w' g C t := by
  unfold Blk; rw [h.block g hb.lt hs]; exact hb
theorem Turn.row {S : Nat → Prop} {w w' : World} {base e z n : Nat} {v : Value} {xs : List Value} (h : Turn S w w') (ho : w.ownsRow base e z v n xs) (hs : ∀ k, v.ownBlock = some k → ¬ S k) : w'.ownsRow base e z v n xs := by
  refine ⟨ho.1, ?_⟩
  rcases ho.2 with h0 | ⟨g, cap, cur, rfl, hb, hg, rest⟩
  · exact .inl h0
  · have hlt := (Array.getElem?_eq_some_iff.1 hg).1
    exact .inr ⟨g, cap, cur, rfl, hb, by rw [h.block g hlt (hs g rfl)]; exact hg, rest⟩

theorem keyL : Go.Maps.Keyed Try.prog 9 := Go.Maps.string_keyed Try.underlying9
theorem zero3 (w : World) : (zeroValue 3).run Try.prog w = .ok (.int .i64 0) w := by kernel_rfl

/-- What a map of rests holds. -/
def MapIs (D : DataW Unit) (ms : Marks) : Prop :=
  ∀ r, (plc ms r = none → Maps.has D (.string r) = false) ∧ ∀ q, plc ms r = some q → Maps.has D (.string r) = true ∧ D.atKey (.string r) (.lit (.int .i64 0)) = .lit (.int .i64 (q : Int))
def MapAt (w : World) (m : Value) (ms : Marks) : Prop :=
  (m = .map none ∧ ms = []) ∨ ∃ b D, m = .map (some b) ∧ w.ownsMap Try.prog 9 (plainElem Try.prog 3) b ms.length D ∧ MapIs D ms
/-- A Writer's blocks. -/
def own (g : Nat) (v m : Value) (k : Nat) : Prop := k = g ∨ v.ownBlock = some k ∨ m = .map (some k)
/-- A Writer of package comp that holds the bytes B and the rests ms lies at g. -/
def CW (w : World) (g : Nat) (v m : Value) (B : List UInt8) (ms : Marks) : Prop :=
  Blk w g #[v, m] 91 ∧ w.ownsRow 0 5 1 v B.length (B.map bv) ∧ MapAt w m ms

theorem CW.blk {w : World} {g : Nat} {v m : Value} {B : List UInt8} {ms : Marks} (h : CW w g v m B ms) : Blk w g #[v, m] 91 := h.1
theorem CW.row {w : World} {g : Nat} {v m : Value} {B : List UInt8} {ms : Marks} (h : CW w g v m B ms) : w.ownsRow 0 5 1 v B.length (B.map bv) := h.2.1
theorem CW.map {w : World} {g : Nat} {v m : Value} {B : List UInt8} {ms : Marks} (h : CW w g v m B ms) : MapAt w m ms := h.2.2
theorem CW.c0 {w : World} {g : Nat} {v m : Value} {B : List UInt8} {ms : Marks} (h : CW w g v m B ms) : w.cell? ⟨g, 0, none⟩ = some v := h.blk.cell 0
theorem CW.c1 {w : World} {g : Nat} {v m : Value} {B : List UInt8} {ms : Marks} (h : CW w g v m B ms) : w.cell? ⟨g, 1, none⟩ = some m := h.blk.cell 1
theorem CW.form {w : World} {g : Nat} {v m : Value} {B : List UInt8} {ms : Marks} (h : CW w g v m B ms) : ∃ x cap, v = .slice x B.length cap := by
  rcases h.row.2 with ⟨h1, h2⟩ | ⟨g, cap, cur, h1, _⟩
  · exact ⟨none, 0, by rw [h1, h2]⟩
  · exact ⟨_, _, h1⟩
theorem CW.sep {w : World} {g : Nat} {v m : Value} {B : List UInt8} {ms : Marks} (h : CW w g v m B ms) : some g ≠ v.ownBlock := by
  intro e
  rcases h.row.2 with ⟨h1, _⟩ | ⟨g', cap, cur, h1, _, hg, _⟩
  · rw [h1] at e; simp [Value.ownBlock] at e
  · rw [h1] at e
    simp [Value.ownBlock] at e
    subst e
    have := h.blk
    unfold Blk at this
    rw [hg] at this
    simp at this
theorem CW.mapSep {w : World} {g b : Nat} {v m : Value} {B : List UInt8} {ms : Marks} (h : CW w g v m B ms) (hm : m = .map (some b)) : b ≠ g ∧ some b ≠ v.ownBlock := by
  rcases h.map with ⟨h1, _⟩ | ⟨b', D, h1, ⟨es, clock, hb, _⟩, _⟩
  · rw [h1] at hm; simp at hm
  · rw [h1] at hm
    simp at hm
    subst hm
    refine ⟨?_, ?_⟩
    · intro e
      subst e
      have := h.blk
      unfold Blk at this
      rw [hb] at this
      simp at this
    · intro e
      rcases h.row.2 with ⟨h2, _⟩ | ⟨g', cap, cur, h2, _, hg, _⟩
      · rw [h2] at e; simp [Value.ownBlock] at e
      · rw [h2] at e
        simp [Value.ownBlock] at e
        subst e
        rw [hb] at hg
        simp at hg
theorem CW.lt {w : World} {g : Nat} {v m : Value} {B : List UInt8} {ms : Marks} (h : CW w g v m B ms) (k : Nat) (hk : own g v m k) : k < w.heap.size := by
  rcases hk with rfl | hk | hk
  · exact h.blk.lt
  · exact (h.row.lt k hk).2
  · rcases h.map with ⟨h1, _⟩ | ⟨b', D, h1, ho, _⟩
    · rw [h1] at hk; simp at hk
    · rw [h1] at hk; simp at hk; subst hk; exact ho.lt
theorem MapAt.turn {S : Nat → Prop} {w w' : World} {m : Value} {ms : Marks} (h : MapAt w m ms) (ht : Turn S w w') (hs : ∀ k, m = .map (some k) → ¬ S k) : MapAt w' m ms := by
  rcases h with h | ⟨b, D, h1, ⟨es, clock, hb, rest⟩, h2⟩
  · exact .inl h
  · have hlt := (Array.getElem?_eq_some_iff.1 hb).1
    exact .inr ⟨b, D, h1, ⟨es, clock, by rw [ht.block b hlt (hs b h1)]; exact hb, rest⟩, h2⟩
/-- A Writer lies as it lay where none of its blocks has turned. -/
theorem CW.turn {S : Nat → Prop} {w w' : World} {g : Nat} {v m : Value} {B : List UInt8} {ms : Marks} (h : CW w g v m B ms) (ht : Turn S w w') (hs : ∀ k, own g v m k → ¬ S k) : CW w' g v m B ms :=
  ⟨ht.blk h.blk (hs g (.inl rfl)), ht.row h.row (fun k hk => hs k (.inr (.inl hk))), h.map.turn ht (fun k hk => hs k (.inr (.inr hk)))⟩
theorem CW.below {w w' : World} {g : Nat} {v m : Value} {B : List UInt8} {ms : Marks} (h : CW w g v m B ms) (hb : Below w.heap.size w w') : CW w' g v m B ms :=
  h.turn (S := fun _ => False) (Turn.of_below hb) (fun _ _ => id)
theorem CW.drewn {w w' : World} {g : Nat} {v m : Value} {B : List UInt8} {ms : Marks} (h : CW w g v m B ms) (hd : ∃ k, w' = w.drewN k) : CW w' g v m B ms := h.below (below_drew hd)
theorem CW.new (w : World) : CW (w.alloc (.cells #[.slice none 0 0, .map none] 91)) w.heap.size (.slice none 0 0) (.map none) [] [] :=
  ⟨Blk.new w _ _, World.ownsRow_nil _ _ _ _, .inl ⟨rfl, rfl⟩⟩

/-- What a call leaves of a Writer. -/
def Left (g : Nat) (v m : Value) (w w' : World) (B : List UInt8) (ms : Marks) : Prop :=
  ∃ v' m', CW w' g v' m' B ms ∧ Turn (own g v m) w w' ∧ ∀ k, own g v' m' k → own g v m k ∨ w.heap.size ≤ k
theorem left_same {w : World} {g : Nat} {v m : Value} {B : List UInt8} {ms : Marks} (h : CW w g v m B ms) : Left g v m w w B ms := ⟨v, m, h, Turn.refl _ _, fun _ hk => .inl hk⟩

theorem new_any (w : World) : Calls Try.prog 18 #[] w fun e w' => e = .returned (.pointer (some ⟨w.heap.size, 0, none⟩)) ∧ w' = w.alloc (.cells #[.slice none 0 0, .map none] 91) := by
  go_enter Try.func18, Try.ntmps18
  go_wp2
  go_ret
  exact ⟨rfl, rfl⟩

theorem room_any (g n cap : Nat) (x : Option Addr) (w : World) (hn : n ≤ 4096) (hc : w.cell? ⟨g, 0, none⟩ = some (.slice x n cap)) :
    Calls Try.prog 58 #[.pointer (some ⟨g, 0, none⟩)] w fun e w' => e = .returned (.int .i64 (4096 - (n : Int))) ∧ w' = w := by
  go_enter Try.func58, Try.ntmps58
  go_wp2
  go_ret
  exact ⟨rfl, rfl⟩

theorem all_any (g : Nat) (v m : Value) (B : List UInt8) (ms : Marks) (w : World) (h : CW w g v m B ms) :
    Calls Try.prog 24 #[.pointer (some ⟨g, 0, none⟩)] w fun e w' => e = .returned (.string ⟨B.toArray⟩) ∧ w' = w := by
  have c0 := h.c0
  have HR : Hid (w.ownsRow 0 5 1 v B.length (B.map bv)) := h.row
  clear h
  go_enter Try.func24, Try.ntmps24
  go_wp2_with (refine wpList_string _ rfl (.tmp 8) rfl 0 B.length v B rfl HR.out ?_)
  go_ret
  exact ⟨rfl, rfl⟩

end Go.Proofs.Ytdogjbblnjjaaab
