/- What walk, target, pointer and Name of package comp give, for every argument. -/
import Derived.Test.YtcapankhobnfeaaXP1
import Derived.Lib.AppendStr
import Derived.StringKeys
import Derived.Maps.OwnSet
import Derived.Maps.OwnOps
import Derived.WalkSpells
import Derived.Deep.RegionLaw
import Derived.Deep.RegionWith
import Derived.Deep.RegionHeld3
import Derived.Deep.AppendSrc
import Derived.Deep.Upon
import Derived.Deep.WholeRow
namespace Go.Proofs.Ytcapankhobnfeaa
open Go.RowKit
open Pl

theorem max_of {n : Nat} (h : n ≤ 140737488355328) : n ≤ maxLen := by unfold maxLen; omega

/-- What is known while labels are gone over, at q. -/
def WkI (l : List UInt8) (p g : Nat) (o : List UInt8) (x : Option Nat) (R : Option (List UInt8 × Nat)) (q : Nat) : Prop :=
  (q < l.length → RAt l q g (o ++ (l.drop p).take (q - p)) x R ∧ Labs (o ++ (l.drop p).take (q - p))) ∧ (l.length ≤ q → R = none)
/-- What walk leaves. -/
def WkP (l : List UInt8) (p g : Nat) (o : List UInt8) (x : Option Nat) (R : Option (List UInt8 × Nat)) (E : Int) (b : Bool) : Prop :=
  (b = false → R = none) ∧ (b = true → ∃ (q : Nat) (h : q < l.length), E = (q : Int) ∧ p ≤ q ∧ RAt l q g (o ++ (l.drop p).take (q - p)) x R ∧ Labs (o ++ (l.drop p).take (q - p)) ∧ o.length + (q - p) ≤ 254 ∧ (l[q].toNat = 0 ∨ 63 < l[q].toNat))

/-- What walk gives. -/
def WkE (l : List UInt8) (p g : Nat) (o : List UInt8) (x : Option Nat) (R : Option (List UInt8 × Nat)) (e : Ending) : Prop :=
  ∃ (E : Int) (b : Bool), e = .returned (.tuple #[.int .i64 E, .bool b]) ∧ WkP l p g o x R E b

theorem wk_start {l : List UInt8} {p g : Nat} {o : List UInt8} {x : Option Nat} {R : Option (List UInt8 × Nat)} (h : RAt l p g o x R) (ho : Labs o) : WkI l p g o x R p := by
  refine ⟨fun _ => ?_, fun hp => r_past h hp⟩
  rw [Nat.sub_self, List.take_zero, List.append_nil]
  exact ⟨h, ho⟩
theorem take_more {l : List UInt8} {p q k : Nat} (h : p ≤ q) : (l.drop p).take (q - p) ++ (l.drop q).take (1 + k) = (l.drop p).take (q + 1 + k - p) := by
  have e : (l.drop p).take ((q - p) + (1 + k)) = (l.drop p).take (q - p) ++ ((l.drop p).drop (q - p)).take (1 + k) := List.take_add
  rw [List.drop_drop, show p + (q - p) = q from by omega] at e
  rw [show q + 1 + k - p = (q - p) + (1 + k) from by omega, e]
theorem wk_len {l o : List UInt8} {p q : Nat} (hq : q ≤ l.length) (hp : p ≤ q) : (o ++ (l.drop p).take (q - p)).length = o.length + (q - p) := by
  rw [List.length_append, List.length_take, List.length_drop]; omega
theorem wk_step {l : List UInt8} {p g : Nat} {o : List UInt8} {x : Option Nat} {R : Option (List UInt8 × Nat)} {q : Nat} (h : WkI l p g o x R q) (hp : p ≤ q) (hq : q < l.length) (h0 : l[q].toNat ≠ 0) (h1 : l[q].toNat ≤ 63) (hl : o.length + (q - p) ≤ 254) : WkI l p g o x R (q + 1 + l[q].toNat) := by
  obtain ⟨hr, hlab⟩ := h.1 hq
  refine ⟨fun hlt => ?_, fun hge => r_cut hr hq h0 h1 hge⟩
  have a := r_lab hr hq h0 h1 (by omega) (by rw [wk_len (by omega) hp]; omega)
  have b := labs_step hlab hq h0 h1 (by omega)
  rw [List.append_assoc, take_more hp] at a b
  exact ⟨a, b⟩
theorem wk_long {l : List UInt8} {p g : Nat} {o : List UInt8} {x : Option Nat} {R : Option (List UInt8 × Nat)} {q : Nat} (h : WkI l p g o x R q) (hp : p ≤ q) (hl : 254 < o.length + (q - p)) : R = none := by
  by_cases hq : q < l.length
  · exact r_long (h.1 hq).1 (by rw [wk_len (by omega) hp]; omega)
  · exact h.2 (by omega)

theorem ptr_two (a b : UInt8) : bits .and .u16 (two a b) 16383 = (((a.toNat * 256 + b.toNat) % 16384 : Nat) : Int) := by
  have ha := a.toNat_lt
  have hb := b.toNat_lt
  have wr : ∀ n : Int, 0 ≤ n → n < 2 ^ 16 → IntKind.u16.wrap n = n := fun n h0 h1 => by
    have : IntKind.u16.wrap n = n % 65536 := by simp [IntKind.wrap, IntKind.bits, IntKind.signed]
    rw [this]; omega
  have h := bits_mask .u16 16 (by decide) wr 14 (by decide) (two a b) (two_lt a b).1 (by have := (two_lt a b).2; omega)
  have h2 : bits .and .u16 (two a b) 16383 = two a b % 16384 := by simpa using h
  rw [h2]
  unfold two
  omega
theorem ptr_at (s : ByteArray) (q : Nat) (h : q + 2 ≤ s.size) : ptrAt s.data.toList q = (s[q].toNat * 256 + s[q + 1].toNat) % 16384 := by
  unfold ptrAt
  rw [val_getD s q (by omega), val_getD s (q + 1) (by omega)]

theorem ptr_bytes (q : Nat) (h : q < 16384) : (ptrB q).map bv = [.int .u8 (((49152 : Int) + (q : Int)) / 256 % 256), .int .u8 (((49152 : Int) + (q : Int)) % 256)] := by
  unfold ptrB bv
  simp only [List.map_cons, List.map_nil]
  have e1 : ((192 + q / 256 : Nat) : Int) = ((49152 : Int) + (q : Int)) / 256 % 256 := by omega
  have e2 : ((q % 256 : Nat) : Int) = ((49152 : Int) + (q : Int)) % 256 := by omega
  rw [toNat_of (by omega), toNat_of (by omega), e1, e2]
theorem pointer_any (q : Nat) (w : World) (h : q < 16384) :
    Calls Try.prog 106 #[.int .i64 (q : Int)] w fun e w' => e = .returned (.string ⟨(ptrB q).toArray⟩) ∧ Below w.heap.size w w' := by
  have kc : (convert 57 9 (.slice (some ⟨w.heap.size, 0, none⟩) 2 2)).run Try.prog (w.alloc (.cells #[.int .u8 (((49152 : Int) + (q : Int)) / 256), .int .u8 (((49152 : Int) + (q : Int)) % 256)] 5)) = .ok (.string ⟨(ptrB q).toArray⟩) (w.alloc (.cells #[.int .u8 (((49152 : Int) + (q : Int)) / 256), .int .u8 (((49152 : Int) + (q : Int)) % 256)] 5)) := by
    have := conv_lit (ptrB q) w
    rw [ptr_bytes q h, show ((49152 : Int) + (q : Int)) / 256 % 256 = ((49152 : Int) + (q : Int)) / 256 from by omega] at this
    exact this
  have hor : bits .or .u16 49152 (q : Int) = 49152 + (q : Int) := by
    have e : (49152 : Int) = ((2 ^ 14 * 3 : Nat) : Int) := by decide
    rw [e, u16_or_nat _ _ (by omega) (by omega), ← Nat.two_pow_add_eq_or_of_lt (by omega)]
    omega
  go_enter Try.func106, Try.ntmps106
  go_wp2
  go_ret
  exact ⟨rfl, (Below.refl _ _).alloc (Nat.le_refl _) _⟩

end Go.Proofs.Ytcapankhobnfeaa

/- What Name of package comp gives, for every argument. -/
namespace Go.Proofs.Ytcapankhobnfeaa
open Go.RowKit
open Pl

/-- What Name of package comp answers. -/
def nmV : Option (List UInt8 × Nat) → Value
  | none => .tuple #[.string ⟨#[]⟩, .int .i64 0, .int .i64 500]
  | some (r, b) => .tuple #[.string ⟨r.toArray⟩, .int .i64 (b : Int), .int .i64 0]
theorem ret_nm {R R' : Option (List UInt8 × Nat)} {v : Value} (h : R = R') (hv : v = nmV R') : Ending.returned v = .returned (nmV R) := by rw [h, hv]

/-- The five ways behind walk. -/
def Ways (s : ByteArray) (p : Nat) (o : List UInt8) (x : Option Nat) (R : Option (List UInt8 × Nat)) (e : Ending) : Prop :=
  (∃ E, e = .returned (.tuple #[.int .i64 E, .bool false]) ∧ Hid (R = none)) ∨
  (∃ (q : Nat) (_ : q < s.size), e = .returned (.tuple #[.int .i64 (q : Int), .bool true]) ∧ p ≤ q ∧ Hid (o.length + (q - p) ≤ 254) ∧ ((s[q].toNat : Int) == 0) = true ∧ Hid (R = some (o ++ ((s.data.toList.drop p).take (q - p) ++ [0]), x.getD (q + 1)))) ∨
  (∃ (q : Nat) (_ : q < s.size), e = .returned (.tuple #[.int .i64 (q : Int), .bool true]) ∧ p ≤ q ∧ Hid (o.length + (q - p) ≤ 254) ∧ ((s[q].toNat : Int) == 0) = false ∧ Hid (s[q].toNat ≤ 191 ∨ s.size < q + 2) ∧ Hid (R = none)) ∨
  (∃ (q : Nat) (_ : q < s.size) (_ : q + 2 ≤ s.size) (T : Nat), e = .returned (.tuple #[.int .i64 (q : Int), .bool true]) ∧ p ≤ q ∧ Hid (o.length + (q - p) ≤ 254) ∧ ((s[q].toNat : Int) == 0) = false ∧ 191 < s[q].toNat ∧ p ≤ T ∧ Hid (T = ptrAt s.data.toList q) ∧ Hid (R = none)) ∨
  (∃ (q : Nat) (_ : q < s.size) (_ : q + 2 ≤ s.size) (T : Nat), e = .returned (.tuple #[.int .i64 (q : Int), .bool true]) ∧ p ≤ q ∧ Hid (o.length + (q - p) ≤ 254) ∧ ((s[q].toNat : Int) == 0) = false ∧ 191 < s[q].toNat ∧ decide (p ≤ T) = false ∧ Hid (T = ptrAt s.data.toList q) ∧
    Hid (RAt s.data.toList T T (o ++ (s.data.toList.drop p).take (q - p)) (some (x.getD (q + 2))) R) ∧ Hid (Labs (o ++ (s.data.toList.drop p).take (q - p))))

theorem ways {s : ByteArray} {p : Nat} {o : List UInt8} {x : Option Nat} {R : Option (List UInt8 × Nat)} {e : Ending} (h : WkE s.data.toList p p o x R e) : Ways s p o x R e := by
  obtain ⟨E, b, rfl, h1, h2⟩ := h
  cases b with
  | false => exact .inl ⟨E, rfl, h1 rfl⟩
  | true =>
    obtain ⟨q, hq, rfl, hp, hr, hlab, hl, hk⟩ := h2 rfl
    have hqs : q < s.size := by rw [← data_len]; exact hq
    have hlen : (o ++ (s.data.toList.drop p).take (q - p)).length = o.length + (q - p) := wk_len (by omega) hp
    have hg : s.data.toList[q] = s[q] := rfl
    rw [hg] at hk
    by_cases h0 : s[q].toNat = 0
    · exact .inr (.inl ⟨q, hqs, rfl, hp, hl, by simp [h0], by unfold Hid; rw [← List.append_assoc]; exact r_zero hr hq h0 (by omega)⟩)
    · have h0' : ((s[q].toNat : Int) == 0) = false := by simpa using h0
      by_cases h1 : s[q].toNat ≤ 191
      · exact .inr (.inr (.inl ⟨q, hqs, rfl, hp, hl, h0', .inl h1, r_bad hr hq (by rw [hg]; omega) h1⟩))
      · by_cases h2 : q + 2 ≤ s.size
        · by_cases h3 : ptrAt s.data.toList q < p
          · exact .inr (.inr (.inr (.inr ⟨q, hqs, h2, _, rfl, hp, hl, h0', by omega, by simp; omega, rfl, r_ptr hr hq (by rw [hg]; omega) (by rw [data_len]; exact h2) h3, hlab⟩)))
          · exact .inr (.inr (.inr (.inl ⟨q, hqs, h2, _, rfl, hp, hl, h0', by omega, by omega, rfl, r_ptr_no hr hq (by rw [hg]; omega) (.inr (by omega))⟩)))
        · exact .inr (.inr (.inl ⟨q, hqs, rfl, hp, hl, h0', .inr (by omega), r_ptr_no hr hq (by rw [hg]; omega) (.inl (by rw [data_len]; omega))⟩))

theorem row_form {w : World} {base e n : Nat} {v : Value} {xs : List Value} (h : w.ownsRow base e 1 v n xs) (hv : ¬ v = .slice none 0 0) : ∃ g cap, v = .slice (some ⟨g, 0, none⟩) n cap := by
  rcases h.2 with ⟨h1, _⟩ | ⟨g, cap, cur, h1, _⟩
  · exact absurd h1 hv
  · exact ⟨g, cap, h1⟩
theorem own_drew {w w' : World} {base e z n : Nat} {v : Value} {xs : List Value} (h : w.ownsRow base e z v n xs) (hd : ∃ m, w' = w.drewN m) : w'.ownsRow base e z v n xs := by
  obtain ⟨m, rfl⟩ := hd; exact h
theorem str_ext (s : ByteArray) (i j : Nat) : Lib.strCells (s.extract i j) = ((s.data.toList.drop i).take (j - i)).map bv := by
  show (s.extract i j).data.toList.map bv = _
  rw [ext_list]
theorem ext_size (s : ByteArray) (p q : Nat) (hp : p ≤ q) (hq : q ≤ s.size) : (s.extract p q).size = q - p := by simp; omega
theorem cut_both (s : ByteArray) (i j : Nat) (h : i ≤ j) (hj : j ≤ s.size) (u : World) : (Instr.slice 9 (.string s) (some (.int .i64 (i : Int))) (some (.int .i64 (j : Int))) none).run Try.prog u = .ok (.string (s.extract i j)) u := by
  have := run_slice_string (P := Try.prog) u 9 s .i64 .i64 (i : Int) (j : Int) Try.underlying9 (by omega) (by omega) (by omega)
  rw [this]; rfl

end Go.Proofs.Ytcapankhobnfeaa

/- What names, whole and Data of package comp give, for every argument. -/
namespace Go.Proofs.Ytcapankhobnfeaa
open Go.RowKit
open Pl

/-- What names of package comp answers. -/
def nsV (E : Int) : Option (List UInt8 × Nat) → Value
  | none => .tuple #[.string ⟨#[]⟩, .bool false]
  | some (t, b) => .tuple #[.string ⟨t.toArray⟩, .bool ((b : Int) == E)]
theorem ret_ns {E : Int} {R R' : Option (List UInt8 × Nat)} {v : Value} (h : R = R') (hv : v = nsV E R') : Ending.returned v = .returned (nsV E R) := by rw [h, hv]

theorem toArr_size (l : List UInt8) : (⟨l.toArray⟩ : ByteArray).size = l.length := by simp [ByteArray.size]

/-- What whole of package comp leaves. -/
def WhP (t : Int) (R : Option (List UInt8)) (D : ByteArray) (b : Bool) : Prop :=
  D.size ≤ 140737488355328 ∧ (b = false → R = none) ∧ (b = true → R = if mayD t D.data.toList = true then some D.data.toList else none)
/-- What whole of package comp gives. -/
def WhE (t : Int) (R : Option (List UInt8)) (e : Ending) : Prop := ∃ D b, e = .returned (.tuple #[.string D, .bool b]) ∧ WhP t R D b

theorem wh_n {l : List UInt8} {p n : Nat} {t : Int} {R : Option (List UInt8 × Nat)} (h : t = 2 ∨ t = 5 ∨ t = 12) (hR : namesOf l p 1 = R) : WhE t (dataOf l p n t) (.returned (nsV ((p + n : Nat) : Int) R)) := by
  rw [names_one] at hR
  rw [data_n h, hR]
  cases R with
  | none => exact ⟨_, _, rfl, by decide, fun _ => rfl, fun e => by simp at e⟩
  | some z =>
    obtain ⟨r, b⟩ := z
    have hn := (nameOf_some hR).1
    have h255 := (name_some hn).1
    refine ⟨_, _, rfl, by rw [toArr_size]; omega, fun e => ?_, fun e => ?_⟩
    · have e' : b ≠ p + n := by simp at e; omega
      rw [dtN, if_neg e']
    · have e' : b = p + n := by simp at e; omega
      rw [dtN, if_pos e', may_n h, if_pos hn, List.nil_append]
theorem wh_15 {l : List UInt8} {p n : Nat} {R : Option (List UInt8 × Nat)} {D : ByteArray} (hn : 2 ≤ n) (hpn : p + n ≤ l.length) (hR : namesOf l (p + 2) 1 = R) (hl : D.data.toList = (l.drop p).take 2) : ∃ H b, nsV ((p + n : Nat) : Int) R = .tuple #[.string H, .bool b] ∧ H.size ≤ 255 ∧ Hid (WhP 15 (dataOf l p n 15) (D ++ H) b) := by
  rw [names_one] at hR
  rw [data_15, if_neg (by omega), hR]
  have hd2 : D.data.toList.length = 2 := by rw [hl, List.length_take, List.length_drop]; omega
  have hds : D.size = 2 := by rw [← data_len]; exact hd2
  cases R with
  | none => exact ⟨⟨#[]⟩, false, rfl, by decide, by rw [ByteArray.size_append, hds]; decide, fun _ => rfl, fun e => by simp at e⟩
  | some z =>
    obtain ⟨r, b⟩ := z
    have hn := (nameOf_some hR).1
    have h255 := (name_some hn).1
    have hne := name_ne hn
    have hrs := toArr_size r
    refine ⟨_, _, rfl, by rw [hrs]; exact h255, by rw [ByteArray.size_append, hds, hrs]; omega, fun e => ?_, fun e => ?_⟩
    · have e' : b ≠ p + n := by simp at e; omega
      rw [dtN, if_neg e']
    · have e' : b = p + n := by simp at e; omega
      have hm : mayD 15 (D ++ (⟨r.toArray⟩ : ByteArray)).data.toList = true := by
        rw [may_15, app_list, List.length_append]
        have hdr : (D.data.toList ++ (⟨r.toArray⟩ : ByteArray).data.toList).drop 2 = r := by rw [← hd2, List.drop_left]
        rw [hdr, hn, hd2]
        simp; omega
      rw [hm, dtN, if_pos e', if_pos rfl, app_list, hl]
theorem wh_6 {l : List UInt8} {p n : Nat} {E : Int} {R : Option (List UInt8 × Nat)} {D : ByteArray} (hn : 20 ≤ n) (hpn : p + n ≤ l.length) (hE : E = ((p + n - 20 : Nat) : Int)) (hR : namesOf l p 2 = R) (hl : D.data.toList = (l.drop (p + n - 20)).take 20) : ∃ H b, nsV E R = .tuple #[.string H, .bool b] ∧ H.size ≤ 510 ∧ Hid (WhP 6 (dataOf l p n 6) (H ++ D) b) := by
  subst hE
  rw [data_6]
  have hd2 : D.data.toList.length = 20 := by rw [hl, List.length_take, List.length_drop]; omega
  have hds : D.size = 20 := by rw [← data_len]; exact hd2
  have bad : ∀ X : Option (List UInt8), X = none → ∃ H b, nsV ((p + n - 20 : Nat) : Int) none = .tuple #[.string H, .bool b] ∧ H.size ≤ 510 ∧ Hid (WhP 6 X (H ++ D) b) := fun X hX => ⟨⟨#[]⟩, false, rfl, by decide, by rw [ByteArray.size_append, hds]; decide, fun _ => hX, fun e => by simp at e⟩
  cases h1 : nameOf l p with
  | none =>
    have e := pre_none (O := []) (c := 1) h1
    rw [preC_nil] at e
    rw [← hR, e]; exact bad _ rfl
  | some z =>
    obtain ⟨r, b⟩ := z
    have e := pre_some (O := []) (c := 1) h1
    rw [preC_nil, names_one] at e
    rw [← hR, e, dtS]
    cases h2 : nameOf l b with
    | none => exact bad _ rfl
    | some z =>
      obtain ⟨r2, b2⟩ := z
      have n1 := (nameOf_some h1).1
      have n2 := (nameOf_some h2).1
      have l1 := (name_some n1).1
      have l2 := (name_some n2).1
      have hrs := toArr_size (r ++ r2)
      rw [List.length_append] at hrs
      rw [List.nil_append, preC, dtS2]
      refine ⟨⟨(r ++ r2).toArray⟩, _, rfl, by omega, by rw [ByteArray.size_append, hds, hrs]; omega, fun e => ?_, fun e => ?_⟩
      · have e' : ¬ b2 + 20 = p + n := by simp at e; omega
        rw [if_neg e']
      · have e' : b2 + 20 = p + n := by simp at e; omega
        have e2 : b2 = p + n - 20 := by omega
        have hm : mayD 6 ((⟨(r ++ r2).toArray⟩ : ByteArray) ++ D).data.toList = true := by
          rw [may_6, app_list, hl]
          show (soaL (r ++ r2 ++ _)).isSome = true
          rw [List.append_assoc, soa_names n1 n2, ← hl, if_pos hd2]; rfl
        rw [hm, if_pos e', if_pos rfl, app_list, hl, e2]
        show some (r ++ (r2 ++ _)) = some (r ++ r2 ++ _)
        rw [List.append_assoc]

/-- What Data of package comp answers. -/
def dtV : Option (List UInt8) → Value
  | none => .tuple #[.string ⟨#[]⟩, .int .i64 500]
  | some d => .tuple #[.string ⟨d.toArray⟩, .int .i64 0]
theorem ret_dt {R R' : Option (List UInt8)} {v : Value} (h : R = R') (hv : v = dtV R') : Ending.returned v = .returned (dtV R) := by rw [h, hv]

/-- The three ways behind whole. -/
theorem wh_ways {t : Int} {R : Option (List UInt8)} {e : Ending} (h : WhE t R e) :
    (∃ D, e = .returned (.tuple #[.string D, .bool false]) ∧ Hid (R = none)) ∨ (∃ D, e = .returned (.tuple #[.string D, .bool true]) ∧ Hid (D.size ≤ maxLen) ∧ Hid (mayD t D.data.toList = false) ∧ Hid (R = none)) ∨
    (∃ D, e = .returned (.tuple #[.string D, .bool true]) ∧ Hid (D.size ≤ maxLen) ∧ Hid (mayD t D.data.toList = true) ∧ Hid (D.size ≤ 65535) ∧ Hid (R = some D.data.toList)) := by
  obtain ⟨D, b, rfl, h0, h1, h2⟩ := h
  cases b with
  | false => exact .inl ⟨D, rfl, h1 rfl⟩
  | true =>
    have h3 := h2 rfl
    cases hm : mayD t D.data.toList with
    | false => exact .inr (.inl ⟨D, rfl, max_of h0, hm, by rw [h3, hm]; unfold Hid; rfl⟩)
    | true =>
      refine .inr (.inr ⟨D, rfl, max_of h0, hm, ?_, by rw [h3, hm]; unfold Hid; rfl⟩)
      unfold Hid
      apply Classical.byContradiction
      intro hc
      rw [may_long t (by rw [data_len]; omega)] at hm
      simp at hm
theorem may4_at (t : Int) (s : ByteArray) (r : Bool) (w : World) (hs : s.size ≤ maxLen) (h : mayD t s.data.toList = r) :
    Calls Try.prog 95 #[.int .i64 t, .string s] w fun e w' => e = .returned (.bool r) ∧ ∃ m, w' = w.drewN m := by rw [← h]; exact may4_any t s w hs

end Go.Proofs.Ytcapankhobnfeaa

/- A Writer of package comp as it lies in memory; what New, room, Raw, All and keep give. -/
namespace Go.Proofs.Ytcapankhobnfeaa
open Go.RowKit
open Pl

/-- A block as it was laid. -/
def Blk (w : World) (g : Nat) (C : Array Value) (t : TypeId) : Prop := w.heap[g]? = some (.cells C t (0, 0))
theorem Blk.cell {w : World} {g : Nat} {C : Array Value} {t : TypeId} (h : Blk w g C t) (i : Nat) : w.cell? ⟨g, i, none⟩ = C[i]? := cell_of_row w g i C t _ h
theorem Blk.frozen {w : World} {g : Nat} {C : Array Value} {t : TypeId} (h : Blk w g C t) (i : Nat) : w.frozen? ⟨g, i, none⟩ = false := by
  unfold Blk at h
  simp only [World.frozen?, h]
  simp
theorem Blk.drew {w w' : World} {g : Nat} {C : Array Value} {t : TypeId} (h : Blk w g C t) (hd : ∃ m, w' = w.drewN m) : Blk w' g C t := by
  obtain ⟨m, rfl⟩ := hd; exact h
theorem Blk.lt {w : World} {g : Nat} {C : Array Value} {t : TypeId} (h : Blk w g C t) : g < w.heap.size := (Array.getElem?_eq_some_iff.1 h).1
theorem Blk.below {w w' : World} {g : Nat} {C : Array Value} {t : TypeId} (h : Blk w g C t) (hb : Below w.heap.size w w') : Blk w' g C t := by
  unfold Blk; rw [hb.block g h.lt]; exact h
theorem Blk.alloc {w : World} {g : Nat} {C : Array Value} {t : TypeId} (h : Blk w g C t) (o : Obj) : Blk (w.alloc o) g C t := h.below ((Below.refl _ _).alloc (Nat.le_refl _) o)
theorem Blk.new (w : World) (C : Array Value) (t : TypeId) : Blk (w.alloc (.cells C t)) w.heap.size C t := heap_alloc_new w _
theorem Blk.set {w : World} {g : Nat} {C : Array Value} {t : TypeId} (h : Blk w g C t) (i : Nat) (v : Value) : Blk (w.setCell ⟨g, i, none⟩ v) g (C.setIfInBounds i v) t := heap_setCell_same w g i C t v h
theorem Blk.other {w : World} {g b : Nat} {C : Array Value} {t : TypeId} (h : Blk w g C t) (hb : g ≠ b) (i : Nat) (v : Value) : Blk (w.setCell ⟨b, i, none⟩ v) g C t := by
  unfold Blk; rw [heap_setCell_other w ⟨b, i, none⟩ g v hb]; exact h
theorem Blk.grown {w w' : World} {g : Nat} {C : Array Value} {t : TypeId} {row : Option Nat} (h : Blk w g C t) (hg : w.grownBy w' row) (hne : some g ≠ row) : Blk w' g C t := by
  unfold Blk; rw [hg.block g h.lt hne]; exact h

/-- All that lay in w lies in w' as it lay, but for the blocks of S. -/
structure Turn (S : Nat → Prop) (w w' : World) : Prop where
  os : w'.os = w.os
  tape : w'.tape = w.tape
  output : w'.output = w.output
  size : w.heap.size ≤ w'.heap.size
  block : ∀ k, k < w.heap.size → ¬ S k → w'.heap[k]? = w.heap[k]?
theorem Turn.refl (S : Nat → Prop) (w : World) : Turn S w w := ⟨rfl, rfl, rfl, Nat.le_refl _, fun _ _ _ => rfl⟩
theorem Turn.of_below {S : Nat → Prop} {w w' : World} (h : Below w.heap.size w w') : Turn S w w' := ⟨h.os, h.tape, h.output, h.size, fun k hk _ => h.block k hk⟩
theorem Turn.of_grown {S : Nat → Prop} {w w' : World} {row : Option Nat} (h : w.grownBy w' row) (hr : ∀ k, row = some k → S k) : Turn S w w' :=
  ⟨h.os, h.tape, h.output, h.size, fun k hk hs => h.block k hk (fun e => hs (hr k e.symm))⟩
theorem Turn.of_set {S : Nat → Prop} (w : World) {p : Addr} (hp : S p.block) (v : Value) : Turn S w (w.setCell p v) :=
  ⟨rfl, rfl, rfl, by simp, fun k _ hs => Below.heap_setCell w p v k (fun e => hs (e ▸ hp))⟩
theorem Turn.trans {S S' : Nat → Prop} {a b c : World} (h : Turn S a b) (k : Turn S' b c) (hs : ∀ i, S' i → S i ∨ a.heap.size ≤ i) : Turn S a c :=
  ⟨k.os.trans h.os, k.tape.trans h.tape, k.output.trans h.output, Nat.le_trans h.size k.size, fun i hi hn =>
    (k.block i (Nat.lt_of_lt_of_le hi h.size) (fun e => (hs i e).elim hn (fun g => by omega))).trans (h.block i hi hn)⟩
theorem Turn.below {S : Nat → Prop} {w a b : World} {B : Nat} (hb : Below B w a) (h : Turn S a b) (hB : B ≤ a.heap.size) (hs : ∀ i, S i → B ≤ i) : Below B w b :=
  ⟨h.os.trans hb.os, h.tape.trans hb.tape, h.output.trans hb.output, Nat.le_trans hb.size h.size, fun k hk => (h.block k (by omega) (fun e => by have := hs k e; omega)).trans (hb.block k hk)⟩
theorem Turn.blk {S : Nat → Prop} {w w' : World} {g : Nat} {C : Array Value} {t : TypeId} (h : Turn S w w') (hb : Blk w g C t) (hs : ¬ S g) : Blk w' g C t := by
  unfold Blk; rw [h.block g hb.lt hs]; exact hb
theorem Turn.row {S : Nat → Prop} {w w' : World} {base e z n : Nat} {v : Value} {xs : List Value} (h : Turn S w w') (ho : w.ownsRow base e z v n xs) (hs : ∀ k, v.ownBlock = some k → ¬ S k) : w'.ownsRow base e z v n xs := by
  refine ⟨ho.1, ?_⟩
  rcases ho.2 with h0 | ⟨g, cap, cur, rfl, hb, hg, rest⟩
  · exact .inl h0
  · have hlt := (Array.getElem?_eq_some_iff.1 hg).1
    exact .inr ⟨g, cap, cur, rfl, hb, by rw [h.block g hlt (hs g rfl)]; exact hg, rest⟩

theorem keyL : Go.Maps.Keyed Try.prog 9 := Go.Maps.string_keyed Try.underlying9
theorem zero3 (w : World) : (zeroValue 3).run Try.prog w = .ok (.int .i64 0) w := by kernel_rfl

/-- What a map of rests holds. -/
def MapIs (D : DataW Unit) (ms : Marks) : Prop :=
  ∀ r, (plc ms r = none → Maps.has D (.string r) = false) ∧ ∀ q, plc ms r = some q → Maps.has D (.string r) = true ∧ D.atKey (.string r) (.lit (.int .i64 0)) = .lit (.int .i64 (q : Int))
def MapAt (w : World) (m : Value) (ms : Marks) : Prop :=
  (m = .map none ∧ ms = []) ∨ ∃ b D, m = .map (some b) ∧ w.ownsMap Try.prog 9 (plainElem Try.prog 3) b ms.length D ∧ MapIs D ms
/-- A Writer's blocks. -/
def own (g : Nat) (v m : Value) (k : Nat) : Prop := k = g ∨ v.ownBlock = some k ∨ m = .map (some k)
/-- A Writer of package comp that holds the bytes B and the rests ms lies at g. -/
def CW (w : World) (g : Nat) (v m : Value) (B : List UInt8) (ms : Marks) : Prop :=
  Blk w g #[v, m] 140 ∧ w.ownsRow 0 5 1 v B.length (B.map bv) ∧ MapAt w m ms

theorem CW.blk {w : World} {g : Nat} {v m : Value} {B : List UInt8} {ms : Marks} (h : CW w g v m B ms) : Blk w g #[v, m] 140 := h.1
theorem CW.row {w : World} {g : Nat} {v m : Value} {B : List UInt8} {ms : Marks} (h : CW w g v m B ms) : w.ownsRow 0 5 1 v B.length (B.map bv) := h.2.1
theorem CW.map {w : World} {g : Nat} {v m : Value} {B : List UInt8} {ms : Marks} (h : CW w g v m B ms) : MapAt w m ms := h.2.2
theorem CW.c0 {w : World} {g : Nat} {v m : Value} {B : List UInt8} {ms : Marks} (h : CW w g v m B ms) : w.cell? ⟨g, 0, none⟩ = some v := h.blk.cell 0
theorem CW.c1 {w : World} {g : Nat} {v m : Value} {B : List UInt8} {ms : Marks} (h : CW w g v m B ms) : w.cell? ⟨g, 1, none⟩ = some m := h.blk.cell 1
theorem CW.form {w : World} {g : Nat} {v m : Value} {B : List UInt8} {ms : Marks} (h : CW w g v m B ms) : ∃ x cap, v = .slice x B.length cap := by
  rcases h.row.2 with ⟨h1, h2⟩ | ⟨g, cap, cur, h1, _⟩
  · exact ⟨none, 0, by rw [h1, h2]⟩
  · exact ⟨_, _, h1⟩
theorem CW.sep {w : World} {g : Nat} {v m : Value} {B : List UInt8} {ms : Marks} (h : CW w g v m B ms) : some g ≠ v.ownBlock := by
  intro e
  rcases h.row.2 with ⟨h1, _⟩ | ⟨g', cap, cur, h1, _, hg, _⟩
  · rw [h1] at e; simp [Value.ownBlock] at e
  · rw [h1] at e
    simp [Value.ownBlock] at e
    subst e
    have := h.blk
    unfold Blk at this
    rw [hg] at this
    simp at this
theorem CW.mapSep {w : World} {g b : Nat} {v m : Value} {B : List UInt8} {ms : Marks} (h : CW w g v m B ms) (hm : m = .map (some b)) : b ≠ g ∧ some b ≠ v.ownBlock := by
  rcases h.map with ⟨h1, _⟩ | ⟨b', D, h1, ⟨es, clock, hb, _⟩, _⟩
  · rw [h1] at hm; simp at hm
  · rw [h1] at hm
    simp at hm
    subst hm
    refine ⟨?_, ?_⟩
    · intro e
      subst e
      have := h.blk
      unfold Blk at this
      rw [hb] at this
      simp at this
    · intro e
      rcases h.row.2 with ⟨h2, _⟩ | ⟨g', cap, cur, h2, _, hg, _⟩
      · rw [h2] at e; simp [Value.ownBlock] at e
      · rw [h2] at e
        simp [Value.ownBlock] at e
        subst e
        rw [hb] at hg
        simp at hg
theorem CW.lt {w : World} {g : Nat} {v m : Value} {B : List UInt8} {ms : Marks} (h : CW w g v m B ms) (k : Nat) (hk : own g v m k) : k < w.heap.size := by
  rcases hk with rfl | hk | hk
  · exact h.blk.lt
  · exact (h.row.lt k hk).2
  · rcases h.map with ⟨h1, _⟩ | ⟨b', D, h1, ho, _⟩
    · rw [h1] at hk; simp at hk
    · rw [h1] at hk; simp at hk; subst hk; exact ho.lt
theorem MapAt.turn {S : Nat → Prop} {w w' : World} {m : Value} {ms : Marks} (h : MapAt w m ms) (ht : Turn S w w') (hs : ∀ k, m = .map (some k) → ¬ S k) : MapAt w' m ms := by
  rcases h with h | ⟨b, D, h1, ⟨es, clock, hb, rest⟩, h2⟩
  · exact .inl h
  · have hlt := (Array.getElem?_eq_some_iff.1 hb).1
    exact .inr ⟨b, D, h1, ⟨es, clock, by rw [ht.block b hlt (hs b h1)]; exact hb, rest⟩, h2⟩
/-- A Writer lies as it lay where none of its blocks has turned. -/
theorem CW.turn {S : Nat → Prop} {w w' : World} {g : Nat} {v m : Value} {B : List UInt8} {ms : Marks} (h : CW w g v m B ms) (ht : Turn S w w') (hs : ∀ k, own g v m k → ¬ S k) : CW w' g v m B ms :=
  ⟨ht.blk h.blk (hs g (.inl rfl)), ht.row h.row (fun k hk => hs k (.inr (.inl hk))), h.map.turn ht (fun k hk => hs k (.inr (.inr hk)))⟩
theorem CW.below {w w' : World} {g : Nat} {v m : Value} {B : List UInt8} {ms : Marks} (h : CW w g v m B ms) (hb : Below w.heap.size w w') : CW w' g v m B ms :=
  h.turn (S := fun _ => False) (Turn.of_below hb) (fun _ _ => id)
theorem CW.drewn {w w' : World} {g : Nat} {v m : Value} {B : List UInt8} {ms : Marks} (h : CW w g v m B ms) (hd : ∃ k, w' = w.drewN k) : CW w' g v m B ms := h.below (below_drew hd)
theorem CW.new (w : World) : CW (w.alloc (.cells #[.slice none 0 0, .map none] 140)) w.heap.size (.slice none 0 0) (.map none) [] [] :=
  ⟨Blk.new w _ _, World.ownsRow_nil _ _ _ _, .inl ⟨rfl, rfl⟩⟩

/-- What a call leaves of a Writer. -/
def Left (g : Nat) (v m : Value) (w w' : World) (B : List UInt8) (ms : Marks) : Prop :=
  ∃ v' m', CW w' g v' m' B ms ∧ Turn (own g v m) w w' ∧ ∀ k, own g v' m' k → own g v m k ∨ w.heap.size ≤ k
theorem left_same {w : World} {g : Nat} {v m : Value} {B : List UInt8} {ms : Marks} (h : CW w g v m B ms) : Left g v m w w B ms := ⟨v, m, h, Turn.refl _ _, fun _ hk => .inl hk⟩

theorem new_any (w : World) : Calls Try.prog 58 #[] w fun e w' => e = .returned (.pointer (some ⟨w.heap.size, 0, none⟩)) ∧ w' = w.alloc (.cells #[.slice none 0 0, .map none] 140) := by
  go_enter Try.func58, Try.ntmps58
  go_wp2
  go_ret
  exact ⟨rfl, rfl⟩

theorem room_any (g n cap : Nat) (x : Option Addr) (w : World) (hn : n ≤ 4096) (hc : w.cell? ⟨g, 0, none⟩ = some (.slice x n cap)) :
    Calls Try.prog 96 #[.pointer (some ⟨g, 0, none⟩)] w fun e w' => e = .returned (.int .i64 (4096 - (n : Int))) ∧ w' = w := by
  go_enter Try.func96, Try.ntmps96
  go_wp2
  go_ret
  exact ⟨rfl, rfl⟩

theorem all_any (g : Nat) (v m : Value) (B : List UInt8) (ms : Marks) (w : World) (h : CW w g v m B ms) :
    Calls Try.prog 64 #[.pointer (some ⟨g, 0, none⟩)] w fun e w' => e = .returned (.string ⟨B.toArray⟩) ∧ w' = w := by
  have c0 := h.c0
  have HR : Hid (w.ownsRow 0 5 1 v B.length (B.map bv)) := h.row
  clear h
  go_enter Try.func64, Try.ntmps64
  go_wp2_with (refine wpList_string _ rfl (.tmp 8) rfl 0 B.length v B rfl HR.out ?_)
  go_ret
  exact ⟨rfl, rfl⟩

end Go.Proofs.Ytcapankhobnfeaa

/- What Raw, keep, split, keepRests and Name of a Writer of package comp give. -/
namespace Go.Proofs.Ytcapankhobnfeaa
open Go.RowKit
open Pl

/-- A string's bytes are appended to a row of bytes that the call owns; the new row lies where the old one lay, or in a new block. -/
theorem run_appB (w : World) (ty : TypeId) (v : Value) (n : Nat) (xs : List Value) (hown : w.ownsRow 0 5 1 v n xs) (s : ByteArray) (hn : n + s.size ≤ 1000000) :
    ∃ v' w', (Builtin.append_ #[57, 9] ty #[v, .string s]).run Try.prog w = .ok v' w' ∧ w'.ownsRow 0 5 1 v' (n + s.size) (xs ++ Lib.strCells s) ∧ w.grownBy w' v.ownBlock ∧ ∀ k, v'.ownBlock = some k → v.ownBlock = some k ∨ w.heap.size ≤ k := by
  obtain ⟨i0, hi, hz0, hz1, hz2⟩ := info_parts info5
  obtain ⟨v', w', hr, h1, h2, _⟩ := Lib.run_append_own_string (P := Try.prog) w 0 57 9 ty 5 i0 Try.underlying57 Try.underlying9 hi hz0 hz1 hz2 v n xs hown s (by unfold maxLen; omega) (by omega) (Nat.zero_le _)
  refine ⟨v', w', hr, h1, h2, ?_⟩
  rcases hown.2 with ⟨rfl, rfl⟩ | ⟨g, cap, cur, rfl, _, hg, hnc, hcm, hcs, htake⟩
  · by_cases hm : s.size = 0
    · intro k hk
      rcases h1.2 with ⟨e, _⟩ | ⟨g', cap', cur', e, _, hg', _, _, _, ht'⟩
      · rw [e] at hk; simp [Value.ownBlock] at hk
      · exfalso
        have hf := Lib.run_firstCells_string (P := Try.prog) w 1 s
        rw [hm] at hf
        have hr2 : (Builtin.append_ #[57, 9] ty #[.slice none 0 0, .string s]).run Try.prog w = .ok (.slice none 0 0) w := by
          simp [Builtin.append_, run_underlying Try.underlying57, run_underlying Try.underlying9, sizeOf, typeInfo, hi, hz1, Builtin.lenOf, hm, hf]
        rw [hr] at hr2
        have := (Result.ok.inj hr2).1
        rw [e] at this
        simp at this
    · have hr2 := run_append_nil_string (P := Try.prog) w 57 9 ty 5 i0 (.int .u8 0) Try.underlying57 Try.underlying9 hi hz0 s (by omega) (by omega) (by rw [hz2]; omega)
      rw [hr] at hr2
      have e := (Result.ok.inj hr2).1
      intro k hk
      rw [e] at hk
      simp [Value.ownBlock] at hk
      exact .inr (by omega)
  · have hxl : xs.length = n := by simpa using hown.1
    by_cases hroom : n + s.size ≤ cap
    · have hr2 := Lib.run_append_room_string (P := Try.prog) w 57 9 ty 5 i0 Try.underlying57 Try.underlying9 hi hz1 g n cap cur hg s hroom (by omega)
      rw [hr] at hr2
      have e := (Result.ok.inj hr2).1
      intro k hk
      rw [e] at hk
      exact .inl hk
    · have holds : ∀ j u, xs[j]? = some u → w.cell? ((⟨g, 0, none⟩ : Addr).add j) = some u := hown.cells (g := g) rfl
      have hr2 := Lib.run_append_grow_string (P := Try.prog) w 57 9 ty 5 i0 (.int .u8 0) Try.underlying57 Try.underlying9 hi hz0 ⟨g, 0, none⟩ n cap xs (by rw [hz1]; simpa using hxl) holds s (by omega) (by omega) (by rw [hz2]; exact growslice_fits (by omega) (by omega))
      rw [hr] at hr2
      have e := (Result.ok.inj hr2).1
      intro k hk
      rw [e] at hk
      simp [Value.ownBlock] at hk
      exact .inr (by omega)

theorem wp_appB (w : World) {o : Oper} {a : Act} {K : Act → World → Prop} {Q : Exit → Act → World → Prop} (sl x : Operand) (ho : o.op = .call { callee := .builtin .append, args := #[sl, x], argTypes := #[57, 9] })
    (v : Value) (n : Nat) (xs : List Value) (hs : a.eval sl = v) (hown : w.ownsRow 0 5 1 v n xs) (s : ByteArray) (hx : a.eval x = .string s) (hn : n + s.size ≤ 1000000)
    (h : ∀ v' w', w'.ownsRow 0 5 1 v' (n + s.size) (xs ++ Lib.strCells s) → w.grownBy w' v.ownBlock → (∀ k, v'.ownBlock = some k → v.ownBlock = some k ∨ w.heap.size ≤ k) → K (a.put o.dst v') w') : Oper.wp Try.prog o a w K Q := by
  obtain ⟨v', w', hr, h2, h3, h4⟩ := run_appB w o.type v n xs hown s hn
  unfold Oper.wp execOp
  simp only [ho, resolve, invoke, builtin, Sem.run_bind, Sem.run_pure, Result.andThen_ok, List.map_toArray, List.map_cons, List.map_nil, hs, hx, hr]
  exact h v' w' h2 h3 h4
theorem wpList_appB (w : World) {ops : Array Oper} {rest : List Oper} {o : Oper} {a : Act} {Q : Exit → Act → World → Prop} (hgd : o.guard = none) (sl x : Operand) (ho : o.op = .call { callee := .builtin .append, args := #[sl, x], argTypes := #[57, 9] })
    (v : Value) (n : Nat) (xs : List Value) (hs : a.eval sl = v) (hown : w.ownsRow 0 5 1 v n xs) (s : ByteArray) (hx : a.eval x = .string s) (hn : n + s.size ≤ 1000000)
    (h : ∀ v' w', w'.ownsRow 0 5 1 v' (n + s.size) (xs ++ Lib.strCells s) → w.grownBy w' v.ownBlock → (∀ k, v'.ownBlock = some k → v.ownBlock = some k ∨ w.heap.size ≤ k) → wpList Try.prog ops Q rest (a.put o.dst v') w') : wpList Try.prog ops Q (o :: rest) a w :=
  wpList_plain hgd fun _ hK => wp_appB w sl x ho v n xs hs hown s hx hn fun v' w' h1 h2 h3 => hK _ _ (h v' w' h1 h2 h3)
theorem step_appB (w : World) {ops : Array Oper} {o : Oper} {a : Act} {K : Act → World → Prop} {Q : Exit → Act → World → Prop} {E : Prop} (hgd : o.guard = none) (sl x : Operand) (ho : o.op = .call { callee := .builtin .append, args := #[sl, x], argTypes := #[57, 9] })
    (v : Value) (n : Nat) (xs : List Value) (hs : a.eval sl = v) (hown : w.ownsRow 0 5 1 v n xs) (s : ByteArray) (hx : a.eval x = .string s) (hn : n + s.size ≤ 1000000)
    (h : ∀ v' w', w'.ownsRow 0 5 1 v' (n + s.size) (xs ++ Lib.strCells s) → w.grownBy w' v.ownBlock → (∀ k, v'.ownBlock = some k → v.ownBlock = some k ∨ w.heap.size ≤ k) → K (a.put o.dst v') w') :
    if Region.wanted o (yielded ops a.tmps) = true then Oper.wp Try.prog o a w K Q else E := by
  have hw : Region.wanted o (yielded ops a.tmps) = true := by simp [Region.wanted, hgd]
  rw [if_pos hw]
  exact wp_appB w sl x ho v n xs hs hown s hx hn h

theorem row_shape {w : World} {base e z n : Nat} {v : Value} {xs : List Value} (h : w.ownsRow base e z v n xs) : ∃ y c, v = .slice y n c := by
  rcases h.2 with ⟨h1, h2⟩ | ⟨g, cap, cur, h1, _⟩
  · exact ⟨none, 0, by rw [h1, h2]⟩
  · exact ⟨_, _, h1⟩
theorem str_list (s : ByteArray) : Lib.strCells s = s.data.toList.map bv := rfl
theorem set0 (a b c : Value) : (#[a, b] : Array Value).setIfInBounds 0 c = #[c, b] := rfl
theorem set1 (a b c : Value) : (#[a, b] : Array Value).setIfInBounds 1 c = #[a, c] := rfl

/-- A Writer behind an append: the row has grown, the field is stored. -/
theorem CW.stored {w w1 : World} {g : Nat} {v v1 m : Value} {B C : List UInt8} {ms : Marks} {N : Nat} (h : CW w g v m B ms) (own1 : w1.ownsRow 0 5 1 v1 N ((B ++ C).map bv)) (grow1 : w.grownBy w1 v.ownBlock)
    (at1 : ∀ k, v1.ownBlock = some k → v.ownBlock = some k ∨ w.heap.size ≤ k) : CW (w1.setCell ⟨g, 0, none⟩ v1) g v1 m (B ++ C) ms ∧ Turn (own g v m) w (w1.setCell ⟨g, 0, none⟩ v1) ∧ ∀ k, own g v1 m k → own g v m k ∨ w.heap.size ≤ k := by
  have hN : N = (B ++ C).length := by have := own1.1; simp at this; simp; omega
  subst hN
  have hblk := (h.blk.grown grow1 h.sep).set 0 v1
  rw [set0] at hblk
  have t1 : Turn (own g v m) w w1 := Turn.of_grown grow1 (fun k hk => .inr (.inl hk))
  have t2 : Turn (own g v m) w (w1.setCell ⟨g, 0, none⟩ v1) := t1.trans (Turn.of_set (S := own g v m) w1 (p := ⟨g, 0, none⟩) (.inl rfl) v1) (fun _ hi => .inl hi)
  have ts : Turn (fun k => k = g) w1 (w1.setCell ⟨g, 0, none⟩ v1) := Turn.of_set (S := fun k => k = g) w1 (p := ⟨g, 0, none⟩) rfl v1
  have hg1 : ∀ k, v1.ownBlock = some k → k ≠ g := fun k hk e => by
    subst e
    rcases at1 k hk with h1 | h1
    · exact h.sep h1.symm
    · have := h.blk.lt; omega
  refine ⟨⟨hblk, ts.row own1 hg1, ?_⟩, t2, fun k hk => ?_⟩
  · have hm : MapAt w1 m ms := h.map.turn (S := fun k => v.ownBlock = some k) (Turn.of_grown grow1 (fun k hk => hk)) (fun k hk e => (h.mapSep hk).2 e.symm)
    exact hm.turn ts (fun k hk => (h.mapSep hk).1)
  · rcases hk with rfl | hk | hk
    · exact .inl (.inl rfl)
    · exact (at1 k hk).imp (fun e => .inr (.inl e)) id
    · exact .inl (.inr (.inr hk))

/-- What Raw answers, and what it leaves. -/
def rawE (B : List UInt8) (s : ByteArray) : Int := if B.length + s.size ≤ 4096 then 0 else 501
def rawB (B : List UInt8) (s : ByteArray) : List UInt8 := if B.length + s.size ≤ 4096 then B ++ s.data.toList else B

theorem CW.stored2 {w w1 : World} {g : Nat} {v v1 m : Value} {B C : List UInt8} {ms : Marks} {N : Nat} (h : CW w g v m B ms) (own1 : w1.ownsRow 0 5 1 v1 N (B.map bv ++ C.map bv)) (grow1 : w.grownBy w1 v.ownBlock)
    (at1 : ∀ k, v1.ownBlock = some k → v.ownBlock = some k ∨ w.heap.size ≤ k) : Left g v m w (w1.setCell ⟨g, 0, none⟩ v1) (B ++ C) ms := by
  obtain ⟨a, b, c⟩ := h.stored (C := C) (by rw [List.map_append]; exact own1) grow1 at1
  exact ⟨v1, m, a, b, c⟩

theorem raw_any (g : Nat) (v m : Value) (B : List UInt8) (ms : Marks) (s : ByteArray) (w : World) (hB : B.length ≤ 4096) (hs : s.size ≤ maxLen) (h : CW w g v m B ms) :
    Calls Try.prog 81 #[.pointer (some ⟨g, 0, none⟩), .string s] w fun e w' => e = .returned (.int .i64 (rawE B s)) ∧ Left g v m w w' (rawB B s) ms := by
  have HW : Hid (CW w g v m B ms) := h
  obtain ⟨x, cap, hv⟩ := h.form
  obtain ⟨n, hn⟩ : ∃ n, n = B.length := ⟨_, rfl⟩
  have HN : Hid (n = B.length) := hn
  rw [← hn] at hv hB
  subst hv
  have HR : Hid (w.ownsRow 0 5 1 (.slice x n cap) n (B.map bv)) := by unfold Hid; rw (occs := .pos [2]) [hn]; exact h.row
  have c0 := h.c0
  have f0 := h.blk.frozen 0
  have hroom := room_any g n cap x w hB c0
  clear h hn
  have hs := hs
  unfold maxLen at hs
  by_cases hfit : n + s.size ≤ 4096
  · have hfit' : decide ((4096 : Int) - (n : Int) < (s.size : Int)) = false := by simp; omega
    have HE : Hid (rawE B s = 0 ∧ rawB B s = B ++ s.data.toList) := by unfold Hid rawE rawB; rw [← HN.out, if_pos hfit, if_pos hfit]; exact ⟨rfl, rfl⟩
    go_enter Try.func81, Try.ntmps81
    go_wp2_with (first
      | (go_at_call 96; go_must (refine hroom.mono ?_); rintro e w' ⟨rfl, hw⟩; obtain rfl := hw.symm)
      | (at_builtin; refine wpList_appB _ rfl (.tmp 16) (.tmp 17) rfl _ n _ rfl HR.out s rfl (by omega) ?_; intro v1 w1 own1 grow1 at1; obtain ⟨y1, k1, rfl⟩ := row_shape own1; have c1 : w1.cell? ⟨g, 0, none⟩ = some (.slice x n cap) := (HW.out.blk.grown grow1 HW.out.sep).cell 0; have f1 : w1.frozen? ⟨g, 0, none⟩ = false := (HW.out.blk.grown grow1 HW.out.sep).frozen 0; have HL : Hid (Left g (.slice x n cap) m w (w1.setCell ⟨g, 0, none⟩ (.slice y1 (n + s.size) k1)) (B ++ s.data.toList) ms) := HW.out.stored2 own1 grow1 at1; clear own1 grow1 at1))
    go_ret
    rw [HE.out.1, HE.out.2]
    exact ⟨rfl, HL.out⟩
  · have hfit' : (4096 : Int) - (n : Int) < (s.size : Int) := by omega
    have HE : Hid (rawE B s = 501 ∧ rawB B s = B) := by unfold Hid rawE rawB; rw [← HN.out, if_neg hfit, if_neg hfit]; exact ⟨rfl, rfl⟩
    go_enter Try.func81, Try.ntmps81
    go_wp2_with (first
      | (go_at_call 96; go_must (refine hroom.mono ?_); rintro e w' ⟨rfl, hw⟩; obtain rfl := hw.symm))
    go_ret
    rw [HE.out.1, HE.out.2]
    exact ⟨rfl, left_same HW.out⟩

theorem isKey_str (r : List UInt8) : WideAt.IsKeyLit (.string r) := by simp [WideAt.IsKeyLit]
theorem mapIs_put {D : DataW Unit} {ms : Marks} {r : List UInt8} {q : Nat} (hD : Maps.IsMap D) (h : MapIs D ms) (hr : plc ms r = none) : MapIs (D.put (.string r) (.lit (.int .i64 (q : Int)))) (ms ++ [(r, q)]) := by
  intro x
  rw [plc_snoc ms r x q hr]
  by_cases e : x = r
  · subst e
    rw [if_pos rfl]
    refine ⟨fun e => by simp at e, fun q' e => ?_⟩
    simp at e
    subst e
    exact ⟨Maps.has_put_same hD (isKey_str x) _, Maps.atKey_put_same hD (isKey_str x) _ _⟩
  · rw [if_neg e]
    have hne : (Lit.string x) ≠ .string r := fun e' => e (by simpa using e')
    rw [Maps.has_put_other hne, Maps.atKey_put_other hne]
    exact h x
theorem mapIs_nil : MapIs (.map []) [] := fun r => ⟨fun _ => rfl, fun q h => by simp [plc] at h⟩

/-- A Writer whose map was written. -/
theorem CW.kept {w w1 : World} {g b : Nat} {v : Value} {B : List UInt8} {ms' : Marks} {D : DataW Unit} (h : Blk w g #[v, .map (some b)] 140) (hr : w.ownsRow 0 5 1 v B.length (B.map bv)) (hg : w.grownBy w1 (some b)) (hb : b ≠ g) (hv : some b ≠ v.ownBlock)
    (ho : w1.ownsMap Try.prog 9 (plainElem Try.prog 3) b ms'.length D) (hD : MapIs D ms') : CW w1 g v (.map (some b)) B ms' := by
  refine ⟨h.grown hg (fun e => hb (Option.some.inj e).symm), ?_, .inr ⟨b, D, rfl, ho, hD⟩⟩
  exact hr.kept hg (by
    cases hx : v.ownBlock with
    | none => exact .inl rfl
    | some k => exact .inr (by rw [hx] at hv; exact fun e => hv e.symm))

theorem keep_some (g b : Nat) (v : Value) (B : List UInt8) (ms : Marks) (r : ByteArray) (q : Nat) (w : World) (hr : r.size ≤ 255) (hq : q ≤ 16383) (hl : ms.length ≤ 100000) (hp : plc ms r.data.toList = none) (h : CW w g v (.map (some b)) B ms) :
    Calls Try.prog 108 #[.pointer (some ⟨g, 0, none⟩), .string r, .int .i64 (q : Int)] w fun e w' => e = .returned (.tuple #[]) ∧ CW w' g v (.map (some b)) B (ms ++ [(r.data.toList, q)]) ∧ w.grownBy w' (some b) := by
  have HW : Hid (CW w g v (.map (some b)) B ms) := h
  have c1 := h.c1
  have t1 : decide ((16383 : Int) < (q : Int)) = false := by simp; omega
  obtain ⟨D, ho, hD⟩ : ∃ D, w.ownsMap Try.prog 9 (plainElem (H := Unit) Try.prog 3) b ms.length D ∧ MapIs D ms := by
    rcases h.map with ⟨e, _⟩ | ⟨b', D, e, h1, h2⟩
    · simp at e
    · simp at e; subst e; exact ⟨D, h1, h2⟩
  have HD : Hid (MapIs D ms) := hD
  have heq := fun u => run_eql_map_nil (P := Try.prog) u 138 9 3 (some b) Try.underlying138
  have hwf : (Lit.int .i64 (q : Int)).wf = true := WalkArith.wf_i64 (by omega)
  have HP : Hid (MapIs (D.put (.string r.data.toList) (.lit (.int .i64 (q : Int)))) (ms ++ [(r.data.toList, q)])) := mapIs_put ho.isMap hD hp
  have HL : Hid (ms.length + 1 = (ms ++ [(r.data.toList, q)]).length) := by unfold Hid; simp
  clear h hD
  go_enter Try.func108, Try.ntmps108
  go_wp2_with (at_mapUpdate; refine wpList_mapUpdate_own _ rfl (.tmp 20) (.tmp 21) (.tmp 22) 138 rfl 9 3 keyL Try.underlying138 _ b ms.length D rfl ho (by unfold maxLen; omega) _ _ _ rfl rfl (Go.WideMaps.keyOf_string_mk Try.underlying9 (by unfold maxLen; omega)) _ [] (plainElem_int Try.underlying3 hwf) ?_; intro w1 own1 grow1)
  go_end0
  refine ⟨rfl, ?_, grow1⟩
  exact CW.kept HW.out.blk HW.out.row grow1 (HW.out.mapSep rfl).1 (HW.out.mapSep rfl).2 (by rw [← HL.out]; exact own1) HP.out

theorem keep_none (g : Nat) (v : Value) (B : List UInt8) (r : ByteArray) (q : Nat) (w : World) (hr : r.size ≤ 255) (hq : q ≤ 16383) (h : CW w g v (.map none) B []) :
    Calls Try.prog 108 #[.pointer (some ⟨g, 0, none⟩), .string r, .int .i64 (q : Int)] w fun e w' => e = .returned (.tuple #[]) ∧ CW w' g v (.map (some w.heap.size)) B [(r.data.toList, q)] ∧ Turn (fun k => k = g) w w' := by
  have HW : Hid (CW w g v (.map none) B []) := h
  have c1 := h.c1
  have t1 : decide ((16383 : Int) < (q : Int)) = false := by simp; omega
  have heq := fun u => run_eql_map_nil (P := Try.prog) u 138 9 3 none Try.underlying138
  have hmm := @run_makeMap Try.prog
  have hwf : (Lit.int .i64 (q : Int)).wf = true := WalkArith.wf_i64 (by omega)
  have HP : Hid (MapIs ((DataW.map [] : DataW Unit).put (.string r.data.toList) (.lit (.int .i64 (q : Int)))) ([] ++ [(r.data.toList, q)])) := mapIs_put Maps.isMap_empty mapIs_nil rfl
  have hlt := h.blk.lt
  obtain ⟨W, hW⟩ : ∃ W, W = (w.alloc (.map #[] 0)).setCell ⟨g, 1, none⟩ (.map (some w.heap.size)) := ⟨_, rfl⟩
  have hblk : Blk W g #[v, .map (some w.heap.size)] 140 := by
    have := (h.blk.alloc (.map #[] 0)).set 1 (.map (some w.heap.size))
    rw [set1] at this
    rw [hW]; exact this
  have hc : (w.alloc (.map #[] 0)).cell? ⟨g, 1, none⟩ = some (.map none) := (h.blk.alloc _).cell 1
  have hf : (w.alloc (.map #[] 0)).frozen? ⟨g, 1, none⟩ = false := (h.blk.alloc _).frozen 1
  have hc2 := hblk.cell 1
  have ho : W.ownsMap Try.prog 9 (plainElem (H := Unit) Try.prog 3) w.heap.size 0 (.map []) := by
    rw [hW]
    exact (World.ownsMap_made w _ _ _).setCell (by show w.heap.size ≠ g; omega) _
  have HT : Hid (Turn (fun k => k = g) w W) := by
    unfold Hid
    rw [hW]
    exact (Turn.of_below (S := fun k => k = g) ((Below.refl w.heap.size w).alloc (Nat.le_refl _) (.map #[] 0))).trans (Turn.of_set (S := fun k => k = g) _ (p := ⟨g, 1, none⟩) rfl _) (fun _ hi => .inl hi)
  have HR : Hid (W.ownsRow 0 5 1 v B.length (B.map bv)) := HT.out.row h.row (fun k hk e => h.sep (by rw [hk, e]))
  have HS : Hid (some w.heap.size ≠ v.ownBlock) := fun e => by have := (h.row.lt _ e.symm).2; omega
  have HB : Hid (Blk W g #[v, .map (some w.heap.size)] 140) := hblk
  have hWn := hW.symm
  have HG : Hid (w.heap.size ≠ g) := by unfold Hid; omega
  have HLT : Hid (w.heap.size ≤ w.heap.size) := Nat.le_refl _
  simp only [List.getElem?_toArray, List.getElem?_cons_zero, List.getElem?_cons_succ] at hc2
  clear h hblk hW
  go_enter Try.func108, Try.ntmps108
  go_wp2_with (at_mapUpdate; refine wpList_mapUpdate_own _ rfl (.tmp 20) (.tmp 21) (.tmp 22) 138 rfl 9 3 keyL Try.underlying138 _ w.heap.size 0 (.map []) rfl ho (by unfold maxLen; omega) _ _ _ rfl rfl (Go.WideMaps.keyOf_string_mk Try.underlying9 (by unfold maxLen; omega)) _ [] (plainElem_int Try.underlying3 hwf) ?_; intro w1 own1 grow1)
  go_end0
  refine ⟨rfl, CW.kept HB.out HR.out grow1 HG.out HS.out own1 HP.out, ?_⟩
  exact HT.out.trans (Turn.of_grown (S := fun k => k = w.heap.size) grow1 (fun k hk => (Option.some.inj hk).symm)) (fun i hi => .inr (by omega))

/-- What keep leaves: the row as it was, one rest more. -/
def KLeft (g : Nat) (v m : Value) (w w' : World) (B : List UInt8) (ms : Marks) : Prop :=
  ∃ m', CW w' g v m' B ms ∧ Turn (own g v m) w w' ∧ ∀ k, own g v m' k → own g v m k ∨ w.heap.size ≤ k
theorem keep_any (g : Nat) (v m : Value) (B : List UInt8) (ms : Marks) (r : ByteArray) (q : Nat) (Q : Int) (w : World) (hr : r.size ≤ 255) (hq : q ≤ 16383) (hQ : Q = (q : Int)) (hl : ms.length ≤ 100000) (hp : plc ms r.data.toList = none) (h : CW w g v m B ms) :
    Calls Try.prog 108 #[.pointer (some ⟨g, 0, none⟩), .string r, .int .i64 Q] w fun e w' => e = .returned (.tuple #[]) ∧ KLeft g v m w w' B (ms ++ [(r.data.toList, q)]) := by
  subst hQ
  rcases h.map with ⟨rfl, rfl⟩ | ⟨b, D, rfl, _⟩
  · refine (keep_none g v B r q w hr hq h).mono fun e w' ⟨he, h1, h2⟩ => ⟨he, _, h1, ⟨h2.os, h2.tape, h2.output, h2.size, fun k hk hs => h2.block k hk (fun e => hs (.inl e))⟩, ?_⟩
    rintro k (hk | hk | hk)
    · exact .inl (.inl hk)
    · exact .inl (.inr (.inl hk))
    · simp at hk; exact .inr (by omega)
  · refine (keep_some g b v B ms r q w hr hq hl hp h).mono fun e w' ⟨he, h1, h2⟩ => ⟨he, _, h1, Turn.of_grown h2 (fun k hk => .inr (.inr (by rw [hk]))), fun k hk => .inl hk⟩

theorem CW.shape {w : World} {g : Nat} {v m : Value} {B : List UInt8} {ms : Marks} (h : CW w g v m B ms) : ∃ x cap, v = .slice x B.length cap := row_shape h.row
theorem sts_len : ∀ (f : Nat) (n : List UInt8) (p e : Nat), (sts f n p e).length ≤ e - p := by
  intro f
  induction f with
  | zero => intros; simp [sts]
  | succ f ih =>
    intro n p e
    rw [sts]
    split
    · rw [List.length_cons]; have := ih n (p + 1 + (n.getD p 0).toNat) e; omega
    · simp

theorem after_keep {g : Nat} {v m m' : Value} {w wr w2 : World} {B : List UInt8} {ms : Marks} (ht : Turn (own g v m) w wr) (ho : ∀ k, own g v m' k → own g v m k ∨ w.heap.size ≤ k) (h : KLeft g v m' (wr.drewN 1) w2 B ms) : KLeft g v m w w2 B ms := by
  obtain ⟨m2, h1, h2, h3⟩ := h
  have e : (wr.drewN 1).heap.size = wr.heap.size := rfl
  have hsz := ht.size
  refine ⟨m2, h1, ht.trans ((Turn.of_below (S := own g v m') (below_drew ⟨1, rfl⟩)).trans h2 (fun i hi => .inl hi)) ho, fun k hk => ?_⟩
  rcases h3 k hk with h | h
  · exact ho k h
  · exact .inr (by omega)

set_option maxRecDepth 20000 in
set_option maxHeartbeats 1000000 in
theorem keepRests_any (g N : Nat) (x : Option Addr) (cap : Nat) (m : Value) (B : List UInt8) (ms : Marks) (s : ByteArray) (e : Nat) (w : World) (hN : N = B.length) (hB : N ≤ 4096) (hml : ms.length ≤ 5000) (hs : s.size ≤ 255) (he : e ≤ s.size)
    (hmiss : ∀ q ∈ sts s.data.toList.length s.data.toList 0 e, plc ms (s.data.toList.drop q) = none ∧ NAt s.data.toList q) (h : CW w g (.slice x N cap) m B ms) :
    Calls Try.prog 104 #[.pointer (some ⟨g, 0, none⟩), .string s, .int .i64 (e : Int)] w fun r w' => r = .returned (.tuple #[]) ∧ KLeft g (.slice x N cap) m w w' B (ms ++ newM B.length s.data.toList e) := by
  have HN : Hid (N = B.length) := hN
  have HM : Hid (∀ q ∈ sts s.data.toList.length s.data.toList 0 e, plc ms (s.data.toList.drop q) = none ∧ NAt s.data.toList q) := hmiss
  have hl := data_len s
  have HW : Hid (CW w g (.slice x N cap) m B ms) := h
  clear h hN hmiss
  go_enter Try.func104, Try.ntmps104
  go_wp2_with (go_at_call 107; go_must (refine (clone_any s _ (by omega)).mono ?_); rintro e w1 ⟨rfl, b1⟩; have HW1 : Hid (CW w1 g (.slice x N cap) m B ms) := HW.out.below b1; have HT1 : Hid (Turn (own g (.slice x N cap) m) w w1) := Turn.of_below b1; clear b1)
  go_loopw [6] (fun i wr => ∃ (p : Nat) (done : List Nat) (m' : Value), i = .int .i64 (p : Int) ∧ p ≤ 600 ∧ Hid (KAt s.data.toList e p done) ∧ Hid (∀ q ∈ done, q < p) ∧ Hid (done.length ≤ p) ∧ Hid (CW wr g (.slice x N cap) m' B (ms ++ mkM B.length s.data.toList done)) ∧ Hid (Turn (own g (.slice x N cap) m) w wr) ∧ Hid (∀ k, own g (.slice x N cap) m' k → own g (.slice x N cap) m k ∨ w.heap.size ≤ k)) (fun i _ => 700 - (intOf i).toNat)
  case atStart => exact ⟨0, [], m, rfl, by decide, k_start _ _, fun q hq => by simp at hq, by unfold Hid; simp, by unfold Hid; simpa [mkM] using HW1.out, HT1, fun k hk => .inl hk⟩
  case round =>
    clear HW1 HT1
    obtain ⟨p, done, m', rfl, hp6, HK, HQ, HDL, HC, HT, HO⟩ := hrel
    by_cases hpe : p < e
    · have hps : p < s.size := by omega
      have hpl : p < s.data.toList.length := by omega
      have hin : p ∈ sts s.data.toList.length s.data.toList 0 e := by
        obtain ⟨f, hf, h2⟩ := HK.out
        rw [h2]
        cases f with
        | zero => omega
        | succ f => rw [sts, if_pos hpe]; simp
      have hms := HM.out p hin
      have hb := UInt8.toNat_lt (s[p])
      have hrl : (s.extract p s.size).data.toList = s.data.toList.drop p := ext_from s p
      have HP : Hid (plc (ms ++ mkM B.length s.data.toList done) (s.extract p s.size).data.toList = none) := by
        unfold Hid
        rw [hrl, plc_app, hms.1, plc_done hpl HQ.out]; rfl
      have HK2 : Hid (KAt s.data.toList e (p + 1 + s[p].toNat) (done ++ [p])) := k_step HK.out hpl hpe
      have hlen : (ms ++ mkM B.length s.data.toList done).length ≤ 100000 := by
        rw [List.length_append]; have := HDL.out; simp only [mkM, List.length_map]; omega
      have hkeep := keep_any g (.slice x N cap) m' B _ (s.extract p s.size) (N + p) ((N : Int) + (p : Int)) (wr.drewN 1) (by simp; omega) (by omega) (by omega) hlen HP.out (HC.out.drewn ⟨1, rfl⟩)
      have HKP : Hid (Calls Try.prog 108 #[.pointer (some ⟨g, 0, none⟩), .string (s.extract p s.size), .int .i64 ((N : Int) + (p : Int))] (wr.drewN 1) fun e w' => e = .returned (.tuple #[]) ∧ KLeft g (.slice x N cap) m' (wr.drewN 1) w' B (ms ++ mkM B.length s.data.toList (done ++ [p]))) := by
        unfold Hid
        rw [mkM_snoc, ← List.append_assoc, ← HN.out]
        rw [hrl] at hkeep
        have e : N + p = N + p := rfl
        rw [← HN.out] at hkeep
        exact hkeep
      have c0 := HC.out.c0
      have hcut := cut_rest s p p rfl (by omega)
      have w4 : IntKind.i64.wrap ((N : Int) + (p : Int)) = (N : Int) + (p : Int) := by rw [IntKind.wrap_i64]; omega
      clear hkeep hms hin HP hlen hrl
      go_wp2
      go_region_held3 (fun w' => w'.cell? ⟨g, 0, none⟩ = some (.slice x N cap)) (first | (simp only [World.cell?_drew, c0]; done) | (simp only [c2]; done))
        (first | (go_at_call 108; refine HKP.out.mono ?_; rintro e w2 ⟨rfl, hk⟩; have HK3 : Hid _ := hk; have c2 : w2.cell? ⟨g, 0, none⟩ = some (.slice x N cap) := (by obtain ⟨m2, h2, _⟩ := hk; exact h2.c0); clear hk))
      have HK4 := after_keep HT.out HO.out HK3.out
      clear HK3 HC HT HO
      obtain ⟨m2, cw2, t2, o2⟩ := HK4
      have HCW2 : Hid (CW w2 g (.slice x N cap) m2 B (ms ++ mkM B.length s.data.toList (done ++ [p]))) := cw2
      have HT2 : Hid (Turn (own g (.slice x N cap) m) w w2) := t2
      have HO2 : Hid (∀ k, own g (.slice x N cap) m2 k → own g (.slice x N cap) m k ∨ w.heap.size ≤ k) := o2
      clear cw2 t2 o2
      go_wp2
      go_roundw
      case rel =>
        refine ⟨p + 1 + s[p].toNat, done ++ [p], m2, by go_num, by omega, HK2, fun q hq => ?_, ?_, HCW2, HT2, HO2⟩
        · rcases List.mem_append.1 hq with hq | hq
          · have := HQ.out q hq; omega
          · simp at hq; omega
        · unfold Hid; rw [List.length_append]; have := HDL.out; simp; omega
      case measure => simp [intOf]; omega
    · have HE := k_end HK.out (by omega)
      have hpe' : decide (p < e) = false := by simpa using hpe
      have HR : Hid (KLeft g (.slice x N cap) m w wr B (ms ++ newM B.length s.data.toList e)) := by
        unfold Hid newM
        rw [HE]
        exact ⟨m', HC.out, HT.out, HO.out⟩
      clear HE
      go_wp2
      go_end0
      exact ⟨rfl, HR.out⟩

theorem look_none {w : World} {m : Value} {ms : Marks} (h : MapAt w m ms) (r : ByteArray) (hr : r.size ≤ maxLen) (hp : plc ms r.data.toList = none) : (Instr.lookup 138 m (.string r) true).run Try.prog w = .ok (.tuple #[.int .i64 0, .bool false]) w := by
  have hk := Go.WideMaps.keyOf_string_mk (P := Try.prog) Try.underlying9 hr
  rcases h with ⟨rfl, _⟩ | ⟨b, D, rfl, ho, hD⟩
  · have := Maps.look_nil (w := w) true keyL Try.underlying138 (zero3 w) hk
    simpa using this
  · obtain ⟨v, ps, hrun, hv⟩ := ho.look_ok keyL Try.underlying138 (zero3 w) (plainElem_int Try.underlying3 (a := 0) (by decide)) hk
    have hh := (hD r.data.toList).1 hp
    rw [Maps.atKey_of_not_has hh] at hv
    obtain ⟨a, rfl, e, _⟩ := plainElem_int_inv Try.underlying3 hv
    simp at e
    rw [hrun, hh, ← e.1]
theorem look_some {w : World} {m : Value} {ms : Marks} (h : MapAt w m ms) (r : ByteArray) (hr : r.size ≤ maxLen) {q : Nat} (hp : plc ms r.data.toList = some q) : (Instr.lookup 138 m (.string r) true).run Try.prog w = .ok (.tuple #[.int .i64 (q : Int), .bool true]) w := by
  have hk := Go.WideMaps.keyOf_string_mk (P := Try.prog) Try.underlying9 hr
  rcases h with ⟨rfl, rfl⟩ | ⟨b, D, rfl, ho, hD⟩
  · simp [plc] at hp
  · obtain ⟨v, ps, hrun, hv⟩ := ho.look_ok keyL Try.underlying138 (zero3 w) (plainElem_int Try.underlying3 (a := 0) (by decide)) hk
    have hh := (hD r.data.toList).2 q hp
    rw [hh.2] at hv
    obtain ⟨a, rfl, e, _⟩ := plainElem_int_inv Try.underlying3 hv
    simp at e
    rw [hrun, hh.1, ← e.1]
theorem MapAt.drewn {w : World} {m : Value} {ms : Marks} (h : MapAt w m ms) (k : Nat) : MapAt (w.drewN k) m ms := h.turn (S := fun _ => False) (Turn.of_below (below_drew ⟨k, rfl⟩)) (fun _ _ => id)

/-- What split gives. -/
def spV (R : Nat × List UInt8) : Value := .tuple #[.int .i64 (R.1 : Int), .string ⟨R.2.toArray⟩]
theorem ret_sp {R R' : Nat × List UInt8} {v : Value} (h : R = R') (hv : v = spV R') : Ending.returned v = .returned (spV R) := by rw [h, hv]

set_option maxRecDepth 20000 in
theorem split_any (g : Nat) (v m : Value) (B : List UInt8) (ms : Marks) (s : ByteArray) (w : World) (hn : isName s.data.toList = true) (hq : ∀ r q, plc ms r = some q → q < 16384) (h : CW w g v m B ms) :
    Calls Try.prog 103 #[.pointer (some ⟨g, 0, none⟩), .string s] w fun e w' => e = .returned (spV (splN ms s.data.toList)) ∧ Below w.heap.size w w' := by
  have hs := name_size hn
  have hl := data_len s
  have HST := w_start hn ms
  obtain ⟨R, hR⟩ : ∃ R, R = splN ms s.data.toList := ⟨_, rfl⟩
  rw [← hR] at HST ⊢
  have HW0 : Hid (WAt ms s.data.toList 0 R []) := HST
  have HW : Hid (CW w g v m B ms) := h
  have HQ : Hid (∀ r q, plc ms r = some q → q < 16384) := hq
  clear HST hR h hn hq
  go_enter Try.func103, Try.ntmps103
  go_wp2
  go_loopw [6] (fun i wr => ∃ (p : Nat) (done : List Nat), i = .int .i64 (p : Int) ∧ p ≤ 600 ∧ Hid (WAt ms s.data.toList p R done) ∧ Hid (∃ k, wr = w.drewN k)) (fun i _ => 700 - (intOf i).toNat)
  case atStart => exact ⟨0, [], rfl, by decide, HW0, 0, rfl⟩
  case round =>
    clear HW0
    obtain ⟨p, done, rfl, hp6, HA, HD⟩ := hrel
    have hpl := nat_lt HA.out.1
    have hps : p < s.size := by omega
    have hb := UInt8.toNat_lt (s[p])
    have hps' : (p : Int) < (s.size : Int) := by omega
    have hbl : Below w.heap.size w wr := below_drew HD.out
    have c1 : wr.cell? ⟨g, 1, none⟩ = some m := (HW.out.below hbl).c1
    have HM : Hid (MapAt wr m ms) := (HW.out.below hbl).map
    by_cases h0 : s[p].toNat = 0
    · have h0' : ((s[p].toNat : Int) != 0) = false := by simp [h0]
      have HR : Hid (R = (p, [0])) := (w_zero HA.out hpl h0).1
      clear h0
      go_wp2
      go_ret2
      exact ⟨ret_sp HR.out rfl, hbl⟩
    · have h0' : ((s[p].toNat : Int) != 0) = true := by simpa using h0
      have hcut := cut_rest s p p rfl (by omega)
      have hrl : (s.extract p s.size).data.toList = s.data.toList.drop p := ext_from s p
      have hrs : (s.extract p s.size).size ≤ maxLen := by unfold maxLen; simp; omega
      cases hpq : plc ms (s.data.toList.drop p) with
      | some q =>
        have HR : Hid (R = (p, ptrB q)) := (w_hit HA.out hpl h0 hpq).1
        have hq := HQ.out _ _ hpq
        have hlook := fun k => look_some (HM.out.drewn k) (s.extract p s.size) hrs (by rw [hrl]; exact hpq)
        clear hpq h0 hrl
        go_wp2
        go_quiet (fail)
        go_wp2_with (go_at_call 106; go_must (refine (pointer_any q _ hq).mono ?_); rintro e w2 ⟨rfl, b2⟩)
        go_ret2
        exact ⟨ret_sp HR.out rfl, next (next hbl (below_drew ⟨_, rfl⟩)) b2⟩
      | none =>
        have HR : Hid (WAt ms s.data.toList (p + 1 + s[p].toNat) R (done ++ [p])) := (w_miss HA.out hpl h0 hpq).1
        have hlook := fun k => look_none (HM.out.drewn k) (s.extract p s.size) hrs (by rw [hrl]; exact hpq)
        clear hpq h0 hrl
        go_wp2
        go_quiet (fail)
        go_wp2
        go_roundw
        case rel => exact ⟨p + 1 + s[p].toNat, done ++ [p], by go_num, by omega, HR, drew_next HD.out ⟨_, rfl⟩⟩
        case measure => simp [intOf]; omega

end Go.Proofs.Ytcapankhobnfeaa

/- What Name of a Writer of package comp gives. -/
namespace Go.Proofs.Ytcapankhobnfeaa
open Go.RowKit
open Pl

/-- What Name of a Writer answers, and what it leaves. -/
def namE (B : List UInt8) (ms : Marks) (n : List UInt8) : Int := if isName n = true then (if B.length + sizW ms n ≤ 4096 then 0 else 501) else 500
def namB (B : List UInt8) (ms : Marks) (n : List UInt8) : List UInt8 := if isName n = true ∧ B.length + sizW ms n ≤ 4096 then outW B ms n else B
def namM (B : List UInt8) (ms : Marks) (n : List UInt8) : Marks := if isName n = true ∧ B.length + sizW ms n ≤ 4096 then marW B ms n else ms
theorem nam_no {B : List UInt8} {ms : Marks} {n : List UInt8} (h : isName n = false) : namE B ms n = 500 ∧ namB B ms n = B ∧ namM B ms n = ms := by
  unfold namE namB namM; simp [h]
theorem nam_long {B : List UInt8} {ms : Marks} {n : List UInt8} (h : isName n = true) (h2 : ¬ B.length + sizW ms n ≤ 4096) : namE B ms n = 501 ∧ namB B ms n = B ∧ namM B ms n = ms := by
  unfold namE namB namM; rw [if_pos h, if_neg h2, if_neg (fun e => h2 e.2), if_neg (fun e => h2 e.2)]; exact ⟨rfl, rfl, rfl⟩
theorem nam_yes {B : List UInt8} {ms : Marks} {n : List UInt8} (h : isName n = true) (h2 : B.length + sizW ms n ≤ 4096) : namE B ms n = 0 ∧ namB B ms n = outW B ms n ∧ namM B ms n = marW B ms n := by
  unfold namE namB namM; rw [if_pos h, if_pos h2, if_pos ⟨h, h2⟩, if_pos ⟨h, h2⟩]; exact ⟨rfl, rfl, rfl⟩

/-- What is known of a Writer's bytes and rests. -/
def Fine (B : List UInt8) (ms : Marks) : Prop := B.length ≤ 4096 ∧ ms.length ≤ B.length ∧ ∀ r q, plc ms r = some q → q < B.length
theorem fine_nil : Fine [] [] := ⟨by decide, by decide, fun r q h => by simp [plc] at h⟩
theorem fine_raw {B : List UInt8} {ms : Marks} (h : Fine B ms) (s : ByteArray) : Fine (rawB B s) ms := by
  unfold rawB
  split
  · rename_i hs
    refine ⟨by rw [List.length_append, data_len]; exact hs, by rw [List.length_append]; have := h.2.1; omega, fun r q hq => ?_⟩
    have := h.2.2 r q hq
    rw [List.length_append]; omega
  · exact h
theorem outW_len {B : List UInt8} {ms : Marks} {n : List UInt8} (h : isName n = true) : (outW B ms n).length = B.length + sizW ms n := by
  have h1 := nat_lt (splN_at h ms)
  unfold outW sizW
  rw [List.length_append, List.length_append, List.length_take]
  omega
theorem mark_lt {b : Nat} {n r : List UInt8} {qs : List Nat} {q e : Nat} (h : plc (mkM b n qs) r = some q) (hq : ∀ x ∈ qs, x < e) : q < b + e := by
  have := plc_mem h
  simp only [mkM, List.mem_map, Prod.mk.injEq] at this
  obtain ⟨a, ha, _, rfl⟩ := this
  have := hq a ha
  omega
theorem fine_name {B : List UInt8} {ms : Marks} (h : Fine B ms) (n : List UInt8) : Fine (namB B ms n) (namM B ms n) := by
  cases hn : isName n with
  | false => obtain ⟨_, h2, h3⟩ := nam_no (B := B) (ms := ms) hn; rw [h2, h3]; exact h
  | true =>
    by_cases hf : B.length + sizW ms n ≤ 4096
    · obtain ⟨_, h2, h3⟩ := nam_yes hn hf
      rw [h2, h3]
      have hl := outW_len (B := B) (ms := ms) hn
      have hs : (splN ms n).1 ≤ sizW ms n := by unfold sizW; omega
      refine ⟨by omega, ?_, fun r q hq => ?_⟩
      · have := sts_len n.length n 0 (splN ms n).1
        have := h.2.1
        unfold marW newM mkM
        rw [List.length_append, List.length_map]
        omega
      · unfold marW newM at hq
        rw [plc_app] at hq
        cases hp : plc ms r with
        | some q' =>
          rw [hp] at hq
          have : q' = q := by simpa using hq
          subst this
          have := h.2.2 r q' hp
          omega
        | none =>
          rw [hp] at hq
          have := mark_lt (e := (splN ms n).1) (by simpa using hq) (fun x hx => (splN_miss hn ms x hx).2.1)
          omega
    · obtain ⟨_, h2, h3⟩ := nam_long hn hf
      rw [h2, h3]; exact h

theorem left_trans {g : Nat} {v m v1 m1 : Value} {w a b : World} {B : List UInt8} {ms : Marks} (ht : Turn (own g v m) w a) (ho : ∀ k, own g v1 m1 k → own g v m k ∨ w.heap.size ≤ k) (h : Left g v1 m1 a b B ms) : Left g v m w b B ms := by
  obtain ⟨v2, m2, h1, h2, h3⟩ := h
  have hsz := ht.size
  refine ⟨v2, m2, h1, ht.trans h2 ho, fun k hk => ?_⟩
  rcases h3 k hk with h | h
  · exact ho k h
  · exact .inr (by omega)

theorem may_yes (s : ByteArray) (w : World) (h : isName s.data.toList = true) : Calls Try.prog 47 #[.string s] w fun e w' => e = .returned (.bool true) ∧ w' = w := may_as s true w (max_of (by have := name_size h; omega)) h

set_option maxRecDepth 20000 in
set_option maxHeartbeats 1000000 in
theorem wname_yes (g : Nat) (v m : Value) (B : List UInt8) (ms : Marks) (s : ByteArray) (w : World) (hf : Fine B ms) (hn : isName s.data.toList = true) (h : CW w g v m B ms) (hfit : B.length + sizW ms s.data.toList ≤ 4096) :
    Calls Try.prog 97 #[.pointer (some ⟨g, 0, none⟩), .string s] w fun e w' => e = .returned (.int .i64 0) ∧ Left g v m w w' (outW B ms s.data.toList) (marW B ms s.data.toList) := by
  have hs := name_size hn
  have hl := data_len s
  obtain ⟨x, cap, hv⟩ := h.shape
  obtain ⟨N, hN⟩ : ∃ N, N = B.length := ⟨_, rfl⟩
  rw [← hN] at hv
  subst hv
  have HW : Hid (CW w g (.slice x N cap) m B ms) := h
  have HNM : Hid (isName s.data.toList = true) := hn
  have HN : Hid (N = B.length) := hN
  have hspl := split_any g _ m B ms s w hn (fun r q hq => by have := hf.2.2 r q hq; have := hf.1; omega) h
  have hat := nat_lt (splN_at hn ms)
  obtain ⟨E, hE⟩ : ∃ E, E = (splN ms s.data.toList).1 := ⟨_, rfl⟩
  obtain ⟨T, hT⟩ : ∃ T : ByteArray, T = ⟨(splN ms s.data.toList).2.toArray⟩ := ⟨_, rfl⟩
  have hTs : T.size = (splN ms s.data.toList).2.length := by rw [hT]; exact toArr_size _
  have HTL : Hid (T.data.toList = (splN ms s.data.toList).2) := by unfold Hid; rw [hT]
  have HEL : Hid (E = (splN ms s.data.toList).1) := hE
  have hsz : sizW ms s.data.toList = E + T.size := by unfold sizW; rw [hE, hTs]
  unfold spV at hspl
  rw [← hE, ← hT] at hspl
  have HSP : Hid (Calls Try.prog 103 #[.pointer (some ⟨g, 0, none⟩), .string s] w fun e w' => e = .returned (.tuple #[.int .i64 (E : Int), .string T]) ∧ Below w.heap.size w w') := hspl
  rw [hsz, ← hN] at hfit
  have hEs : E ≤ s.size := by omega
  have HKR : Hid (∀ u, CW u g (.slice x N cap) m B ms → Calls Try.prog 104 #[.pointer (some ⟨g, 0, none⟩), .string s, .int .i64 (E : Int)] u fun r w' => r = .returned (.tuple #[]) ∧ KLeft g (.slice x N cap) m u w' B (marW B ms s.data.toList)) := fun u hu => by
    have := keepRests_any g N x cap m B ms s E u hN (by omega) (by have := hf.2.1; omega) hs hEs (fun q hq => by rw [hE] at hq; have := splN_miss hn ms q hq; exact ⟨this.1, this.2.2.1⟩) hu
    unfold marW
    rw [hE] at this ⊢
    exact this
  have HOUT : Hid (outW B ms s.data.toList = B ++ s.data.toList.take E ++ T.data.toList) := by unfold Hid outW; rw [HTL.out, ← hE, List.append_assoc]
  obtain ⟨M, hM⟩ : ∃ M, M = marW B ms s.data.toList := ⟨_, rfl⟩
  rw [← hM] at HKR ⊢
  have hTb : T.size ≤ 4096 := by omega
  have hcut := cut_to s E E rfl hEs
  have hxs : (s.extract 0 E).size = E := by simp; omega
  have hxl : (s.extract 0 E).data.toList = s.data.toList.take E := ext_to s E
  have hfit' : decide ((4096 : Int) - (N : Int) < (E : Int) + (T.size : Int)) = false := by simp; omega
  clear h hn hspl hE hT hTs hN hM hat hsz hf
  go_enter Try.func97, Try.ntmps97
  go_wp2_with (first
    | (go_at_call 47; go_must (refine (may_yes s _ HNM.out).mono ?_); rintro e w' ⟨rfl, hw⟩; obtain rfl := hw.symm)
    | (go_at_call 103; go_must (refine HSP.out.mono ?_); rintro e w1 ⟨rfl, b1⟩; have HW1 : Hid (CW w1 g (.slice x N cap) m B ms) := HW.out.below b1; have HT1 : Hid (Turn (own g (.slice x N cap) m) w w1) := Turn.of_below b1; clear b1)
    | (go_at_call 96; go_must (refine (room_any g N cap x _ (by omega) HW1.out.c0).mono ?_); rintro e w' ⟨rfl, hw⟩; obtain rfl := hw.symm)
    | (go_at_call 104; go_must (refine (HKR.out _ HW1.out).mono ?_); rintro e w2 ⟨rfl, hk⟩; obtain ⟨m2, cw2, t2, o2⟩ := hk; have HW2 : Hid (CW w2 g (.slice x N cap) m2 B M) := cw2; have HT2 : Hid (Turn (own g (.slice x N cap) m) w w2) := HT1.out.trans t2 (fun i hi => .inl hi); have HO2 : Hid (∀ k, own g (.slice x N cap) m2 k → own g (.slice x N cap) m k ∨ w.heap.size ≤ k) := (fun k hk => (o2 k hk).imp id (fun e => Nat.le_trans HT1.out.size e)); have c2 := cw2.c0; have f2 := cw2.blk.frozen 0; clear cw2 t2 o2 HW1 HT1))
  have HR2 : Hid (w2.ownsRow 0 5 1 (.slice x N cap) N (B.map bv)) := by
    unfold Hid
    have := HW2.out.row
    rw [← HN.out] at this
    exact this
  go_region_law ((refine step_appB _ (by rfl) (.tmp 33) (.tmp 36) (by rfl) (.slice x N cap) N (B.map bv) (by rfl) HR2.out.drew (s.extract 0 E) (by rfl) (by omega) ?_; intro v3 w3 own3 grow3 at3; rw [hxs, str_list, hxl] at own3; obtain ⟨y3, k3, rfl⟩ := row_shape own3; have c3 : w3.cell? ⟨g, 0, none⟩ = some (.slice x N cap) := ((HW2.out.drewn ⟨1, rfl⟩).blk.grown grow3 (HW2.out.drewn ⟨1, rfl⟩).sep).cell 0; have f3 : w3.frozen? ⟨g, 0, none⟩ = false := ((HW2.out.drewn ⟨1, rfl⟩).blk.grown grow3 (HW2.out.drewn ⟨1, rfl⟩).sep).frozen 0))
  obtain ⟨cw3, t3, o3⟩ := (HW2.out.drewn (w' := w2.drewN 1) ⟨1, rfl⟩).stored (C := s.data.toList.take E) (by rw [List.map_append]; exact own3) grow3 at3
  have HT3 : Hid (Turn (own g (.slice x N cap) m) w (w3.setCell ⟨g, 0, none⟩ (.slice y3 (N + E) k3))) := HT2.out.trans ((Turn.of_below (S := own g (.slice x N cap) m2) (below_drew ⟨1, rfl⟩)).trans t3 (fun i hi => .inl hi)) HO2.out
  have HO3 : Hid (∀ k, own g (.slice y3 (N + E) k3) m2 k → own g (.slice x N cap) m k ∨ w.heap.size ≤ k) := fun k hk => by
    rcases o3 k hk with h | h
    · exact HO2.out k h
    · have e : (w2.drewN 1).heap.size = w2.heap.size := rfl
      have := HT2.out.size
      exact .inr (by omega)
  have c4 := cw3.c0
  have f4 := cw3.blk.frozen 0
  have HW3 : Hid (CW (w3.setCell ⟨g, 0, none⟩ (.slice y3 (N + E) k3)) g (.slice y3 (N + E) k3) m2 (B ++ s.data.toList.take E) M) := cw3
  have HR3 : Hid ((w3.setCell ⟨g, 0, none⟩ (.slice y3 (N + E) k3)).ownsRow 0 5 1 (.slice y3 (N + E) k3) (N + E) ((B ++ s.data.toList.take E).map bv)) := by
    unfold Hid
    have h1 := cw3.row
    have h2 : (B ++ s.data.toList.take E).length = N + E := by rw [List.length_append, List.length_take, HN.out]; omega
    rw [h2] at h1
    exact h1
  clear cw3 t3 o3 own3 grow3 at3 c3 f3 c2 f2
  revert HT3 c4 f4 HW3 HR3
  generalize w3.setCell ⟨g, 0, none⟩ (.slice y3 (N + E) k3) = W3
  intro HT3 c4 f4 HW3 HR3
  go_wp2_with (at_builtin; refine wpList_appB _ rfl (.tmp 44) (.tmp 45) rfl (.slice y3 (N + E) k3) (N + E) _ rfl HR3.out T rfl (by omega) ?_; intro v5 w5 own5 grow5 at5; obtain ⟨y5, k5, rfl⟩ := row_shape own5; have c5 : w5.cell? ⟨g, 0, none⟩ = some (.slice y3 (N + E) k3) := (HW3.out.blk.grown grow5 HW3.out.sep).cell 0; have f5 : w5.frozen? ⟨g, 0, none⟩ = false := (HW3.out.blk.grown grow5 HW3.out.sep).frozen 0; have HL : Hid (Left g (.slice x N cap) m w (w5.setCell ⟨g, 0, none⟩ (.slice y5 (N + E + T.size) k5)) (B ++ s.data.toList.take E ++ T.data.toList) M) := left_trans HT3.out HO3.out (HW3.out.stored2 own5 grow5 at5); clear own5 grow5 at5)
  go_ret
  rw [HOUT.out]
  exact ⟨rfl, HL.out⟩

theorem wname_long (g : Nat) (v m : Value) (B : List UInt8) (ms : Marks) (s : ByteArray) (w : World) (hf : Fine B ms) (hn : isName s.data.toList = true) (h : CW w g v m B ms) (hfit : ¬ B.length + sizW ms s.data.toList ≤ 4096) :
    Calls Try.prog 97 #[.pointer (some ⟨g, 0, none⟩), .string s] w fun e w' => e = .returned (.int .i64 501) ∧ Left g v m w w' B ms := by
  have hs := name_size hn
  have hl := data_len s
  obtain ⟨x, cap, hv⟩ := h.shape
  obtain ⟨N, hN⟩ : ∃ N, N = B.length := ⟨_, rfl⟩
  rw [← hN] at hv
  subst hv
  have HW : Hid (CW w g (.slice x N cap) m B ms) := h
  have HNM : Hid (isName s.data.toList = true) := hn
  have hspl := split_any g _ m B ms s w hn (fun r q hq => by have := hf.2.2 r q hq; have := hf.1; omega) h
  have hat := nat_lt (splN_at hn ms)
  have hsz1 := splN_size hn ms
  obtain ⟨E, hE⟩ : ∃ E, E = (splN ms s.data.toList).1 := ⟨_, rfl⟩
  obtain ⟨T, hT⟩ : ∃ T : ByteArray, T = ⟨(splN ms s.data.toList).2.toArray⟩ := ⟨_, rfl⟩
  have hTs : T.size = (splN ms s.data.toList).2.length := by rw [hT]; exact toArr_size _
  have hsz : sizW ms s.data.toList = E + T.size := by unfold sizW; rw [hE, hTs]
  unfold spV at hspl
  rw [← hE, ← hT] at hspl
  have HSP : Hid (Calls Try.prog 103 #[.pointer (some ⟨g, 0, none⟩), .string s] w fun e w' => e = .returned (.tuple #[.int .i64 (E : Int), .string T]) ∧ Below w.heap.size w w') := hspl
  rw [hsz, ← hN] at hfit
  rw [hsz] at hsz1
  have hB := hf.1
  rw [← hN] at hB
  have hfit' : (4096 : Int) - (N : Int) < (E : Int) + (T.size : Int) := by omega
  have hEb : E ≤ 255 := by omega
  have hTb : T.size ≤ 255 := by omega
  clear h hn hspl hE hT hTs hN hat hsz hf hsz1
  go_enter Try.func97, Try.ntmps97
  go_wp2_with (first
    | (go_at_call 47; go_must (refine (may_yes s _ HNM.out).mono ?_); rintro e w' ⟨rfl, hw⟩; obtain rfl := hw.symm)
    | (go_at_call 103; go_must (refine HSP.out.mono ?_); rintro e w1 ⟨rfl, b1⟩; have HW1 : Hid (CW w1 g (.slice x N cap) m B ms) := HW.out.below b1; have HT1 : Hid (Turn (own g (.slice x N cap) m) w w1) := Turn.of_below b1; clear b1)
    | (go_at_call 96; go_must (refine (room_any g N cap x _ hB HW1.out.c0).mono ?_); rintro e w' ⟨rfl, hw⟩; obtain rfl := hw.symm))
  go_ret
  exact ⟨rfl, _, _, HW1.out, HT1.out, fun k hk => .inl hk⟩

theorem wname_no (g : Nat) (v m : Value) (B : List UInt8) (ms : Marks) (s : ByteArray) (w : World) (hs : s.size ≤ maxLen) (hn : isName s.data.toList = false) (h : CW w g v m B ms) :
    Calls Try.prog 97 #[.pointer (some ⟨g, 0, none⟩), .string s] w fun e w' => e = .returned (.int .i64 500) ∧ Left g v m w w' B ms := by
  go_enter Try.func97, Try.ntmps97
  go_wp2_with (go_at_call 47; go_must (refine (may_as s false _ hs hn).mono ?_); rintro e w' ⟨rfl, hw⟩; obtain rfl := hw.symm)
  go_ret
  exact ⟨rfl, left_same h⟩

/-- What Name of a Writer of package comp gives, for every argument. -/
theorem wname_any (g : Nat) (v m : Value) (B : List UInt8) (ms : Marks) (s : ByteArray) (w : World) (hf : Fine B ms) (hs : s.size ≤ maxLen) (h : CW w g v m B ms) :
    Calls Try.prog 97 #[.pointer (some ⟨g, 0, none⟩), .string s] w fun e w' => e = .returned (.int .i64 (namE B ms s.data.toList)) ∧ Left g v m w w' (namB B ms s.data.toList) (namM B ms s.data.toList) := by
  cases hn : isName s.data.toList with
  | false => obtain ⟨h1, h2, h3⟩ := nam_no (B := B) (ms := ms) hn; rw [h1, h2, h3]; exact wname_no g v m B ms s w hs hn h
  | true =>
    by_cases hfit : B.length + sizW ms s.data.toList ≤ 4096
    · obtain ⟨h1, h2, h3⟩ := nam_yes hn hfit; rw [h1, h2, h3]; exact wname_yes g v m B ms s w hf hn h hfit
    · obtain ⟨h1, h2, h3⟩ := nam_long hn hfit; rw [h1, h2, h3]; exact wname_long g v m B ms s w hf hn h hfit

end Go.Proofs.Ytcapankhobnfeaa

/- A Writer that the call itself made; what awake gives: true. -/
namespace Go.Proofs.Ytcapankhobnfeaa
open Go.RowKit
open Pl

/-- Rows of other types than a Writer's lie as they lay. -/
def Beside (w w' : World) : Prop := ∀ (k : Nat) (c : Array Value) (t : TypeId) (f : Nat × Nat), w.heap[k]? = some (Obj.cells c t f) → t ≠ 5 → t ≠ 140 → w'.heap[k]? = some (Obj.cells c t f)
theorem Beside.refl (w : World) : Beside w w := fun _ _ _ _ h _ _ => h
theorem Beside.trans {a b c : World} (h : Beside a b) (k : Beside b c) : Beside a c := fun i x t f hi h1 h2 => k i x t f (h i x t f hi h1 h2) h1 h2
theorem Beside.of_below {w w' : World} (h : Below w.heap.size w w') : Beside w w' := fun k c t f hk _ _ => by
  rw [h.block k (Array.getElem?_eq_some_iff.1 hk).1]; exact hk
theorem Beside.row {w w' : World} {base e z n : Nat} {v : Value} {xs : List Value} (h : Beside w w') (ho : w.ownsRow base e z v n xs) (h1 : e ≠ 5) (h2 : e ≠ 140) : w'.ownsRow base e z v n xs := by
  refine ⟨ho.1, ?_⟩
  rcases ho.2 with h0 | ⟨g, cap, cur, rfl, hb, hg, rest⟩
  · exact .inl h0
  · exact .inr ⟨g, cap, cur, rfl, hb, h g _ _ _ hg h1 h2, rest⟩
theorem Beside.of_turn {w w' : World} {g : Nat} {v m : Value} {B : List UInt8} {ms : Marks} (h : CW w g v m B ms) (ht : Turn (own g v m) w w') : Beside w w' := by
  intro k c t f hk h1 h2
  rw [ht.block k (Array.getElem?_eq_some_iff.1 hk).1 ?_]
  · exact hk
  · rintro (rfl | e | e)
    · have := h.blk
      unfold Blk at this
      rw [hk] at this
      simp at this
      exact h2 this.2.1
    · rcases h.row.2 with ⟨h3, _⟩ | ⟨g', cap, cur, h3, _, hg, _⟩
      · rw [h3] at e; simp [Value.ownBlock] at e
      · rw [h3] at e
        simp [Value.ownBlock] at e
        subst e
        rw [hk] at hg
        simp at hg
        exact h1 hg.2.1
    · rcases h.map with ⟨h3, _⟩ | ⟨b', D, h3, ⟨es, clock, hb, _⟩, _⟩
      · rw [h3] at e; simp at e
      · rw [h3] at e
        simp at e
        subst e
        rw [hk] at hb
        simp at hb

/-- At g lies a Writer that was made since w0, with the bytes B and the rests ms; what lay in w0 lies as it lay. -/
def Holds (w0 w : World) (g : Nat) (B : List UInt8) (ms : Marks) : Prop :=
  ∃ v m, CW w g v m B ms ∧ Fine B ms ∧ (∀ k, own g v m k → w0.heap.size ≤ k) ∧ Below w0.heap.size w0 w
theorem Holds.below {w0 w w' : World} {g : Nat} {B : List UInt8} {ms : Marks} (h : Holds w0 w g B ms) (hb : Below w.heap.size w w') : Holds w0 w' g B ms := by
  obtain ⟨v, m, h1, h2, h3, h4⟩ := h
  exact ⟨v, m, h1.below hb, h2, h3, next h4 hb⟩
theorem Holds.out {w0 w : World} {g : Nat} {B : List UInt8} {ms : Marks} (h : Holds w0 w g B ms) : Below w0.heap.size w0 w := by
  obtain ⟨v, m, h1, h2, h3, h4⟩ := h; exact h4
theorem Holds.fine {w0 w : World} {g : Nat} {B : List UInt8} {ms : Marks} (h : Holds w0 w g B ms) : Fine B ms := by
  obtain ⟨v, m, h1, h2, h3, h4⟩ := h; exact h2
theorem holds_left {w0 w w' : World} {g : Nat} {v m : Value} {B B' : List UInt8} {ms ms' : Marks} (h1 : CW w g v m B ms) (h3 : ∀ k, own g v m k → w0.heap.size ≤ k) (h4 : Below w0.heap.size w0 w) (hl : Left g v m w w' B' ms') (hf : Fine B' ms') : Holds w0 w' g B' ms' ∧ Beside w w' := by
  obtain ⟨v', m', a, b, c⟩ := hl
  refine ⟨⟨v', m', a, hf, fun k hk => ?_, Turn.below h4 b h4.size h3⟩, Beside.of_turn h1 b⟩
  rcases c k hk with h | h
  · exact h3 k h
  · exact Nat.le_trans h4.size h

theorem new_h (w0 w : World) (h : Below w0.heap.size w0 w) : Calls Try.prog 58 #[] w fun e w' => ∃ g, e = .returned (.pointer (some ⟨g, 0, none⟩)) ∧ Holds w0 w' g [] [] ∧ Beside w w' := by
  refine (new_any w).mono fun e w' ⟨he, hw⟩ => ⟨_, he, ?_⟩
  subst hw
  refine ⟨⟨_, _, CW.new w, fine_nil, ?_, lay h _⟩, Beside.of_below ((Below.refl _ _).alloc (Nat.le_refl _) _)⟩
  rintro k (rfl | e | e)
  · exact h.size
  · simp [Value.ownBlock] at e
  · simp at e
theorem raw_h {w0 w : World} {g : Nat} {B : List UInt8} {ms : Marks} (s : ByteArray) (hs : s.size ≤ maxLen) (h : Holds w0 w g B ms) :
    Calls Try.prog 81 #[.pointer (some ⟨g, 0, none⟩), .string s] w fun e w' => e = .returned (.int .i64 (rawE B s)) ∧ Holds w0 w' g (rawB B s) ms ∧ Beside w w' := by
  obtain ⟨v, m, h1, h2, h3, h4⟩ := h
  exact (raw_any g v m B ms s w h2.1 hs h1).mono fun e w' ⟨he, hl⟩ => ⟨he, holds_left h1 h3 h4 hl (fine_raw h2 s)⟩
theorem name_h {w0 w : World} {g : Nat} {B : List UInt8} {ms : Marks} (s : ByteArray) (hs : s.size ≤ maxLen) (h : Holds w0 w g B ms) :
    Calls Try.prog 97 #[.pointer (some ⟨g, 0, none⟩), .string s] w fun e w' => e = .returned (.int .i64 (namE B ms s.data.toList)) ∧ Holds w0 w' g (namB B ms s.data.toList) (namM B ms s.data.toList) ∧ Beside w w' := by
  obtain ⟨v, m, h1, h2, h3, h4⟩ := h
  exact (wname_any g v m B ms s w h2 hs h1).mono fun e w' ⟨he, hl⟩ => ⟨he, holds_left h1 h3 h4 hl (fine_name h2 _)⟩
theorem all_h {w0 w : World} {g : Nat} {B : List UInt8} {ms : Marks} (h : Holds w0 w g B ms) :
    Calls Try.prog 64 #[.pointer (some ⟨g, 0, none⟩)] w fun e w' => e = .returned (.string ⟨B.toArray⟩) ∧ w' = w := by
  obtain ⟨v, m, h1, _⟩ := h
  exact all_any g v m B ms w h1
/-- .. with answers that are known. -/
theorem raw_k {w0 w : World} {g : Nat} {B B' : List UInt8} {ms : Marks} {E : Int} (s : ByteArray) (hs : s.size ≤ maxLen) (h : Holds w0 w g B ms) (hE : rawE B s = E) (hB : rawB B s = B') :
    Calls Try.prog 81 #[.pointer (some ⟨g, 0, none⟩), .string s] w fun e w' => e = .returned (.int .i64 E) ∧ Holds w0 w' g B' ms ∧ Beside w w' := by subst hE; subst hB; exact raw_h s hs h
theorem name_k {w0 w : World} {g : Nat} {B B' : List UInt8} {ms ms' : Marks} {E : Int} (s : ByteArray) (hs : s.size ≤ maxLen) (h : Holds w0 w g B ms) (hE : namE B ms s.data.toList = E) (hB : namB B ms s.data.toList = B') (hM : namM B ms s.data.toList = ms') :
    Calls Try.prog 97 #[.pointer (some ⟨g, 0, none⟩), .string s] w fun e w' => e = .returned (.int .i64 E) ∧ Holds w0 w' g B' ms' ∧ Beside w w' := by subst hE; subst hB; subst hM; exact name_h s hs h

def aB1 : List UInt8 := [97, 98]
def aB2 : List UInt8 := [97, 98, 1, 97, 1, 98, 0]
def aM2 : Marks := [([1, 97, 1, 98, 0], 2), ([1, 98, 0], 4)]
def aB3 : List UInt8 := [97, 98, 1, 97, 1, 98, 0, 1, 99, 192, 4]
def aM3 : Marks := [([1, 97, 1, 98, 0], 2), ([1, 98, 0], 4), ([1, 99, 1, 98, 0], 7)]
theorem small {n : Nat} (h : n ≤ 100) : n ≤ maxLen := by unfold maxLen; omega

end Go.Proofs.Ytcapankhobnfeaa

/- A region that draws its order and whose calls lay new blocks alone; rows of strings appended to each other. -/
namespace Go.Proofs.Ytcapankhobnfeaa
open Go.RowKit
open Pl

/-- A world in which all that w holds lies as it lay. -/
structure Bel (w : World) where
  to : World
  h : Below w.heap.size w to

/-- A region that draws its order, whose calls lay new blocks alone: one walk, in the order of the text. -/
theorem wp_region_bel {P : Program} {id : Nat} {Q : Exit → Act → World → Prop} {a : Act} {w : World} {l : List Oper} (hm : P.follows .mixedOrders = true) (hB : Region.lexB .any l.toArray = true)
    (h : Nonempty (Bel w) → wpQuiet P l.toArray (fun w' => ∃ n : Bel w, w' = n.to) (fun a' => ∀ w', (∃ n : Bel w, w' = n.to) → Q .normal a' w') l a) : (Code.region id l.toArray true).wp P Q a w :=
  wp_region_quiet (C := fun w' => ∃ n : Bel w, w' = n.to) hm hB ⟨⟨_, below_drew ⟨1, rfl⟩⟩, rfl⟩ (h ⟨⟨w, Below.refl _ _⟩⟩)

theorem bel_lays {P : Program} {f : FuncId} {args : Array Value} {w : World} {n : Bel w} {v : Value}
    (h : Calls P f args n.to fun e w' => e = .returned v ∧ Below n.to.heap.size n.to w') : Calls P f args n.to fun e w'' => e = .returned v ∧ ∃ m : Bel w, w'' = m.to :=
  h.mono fun _ w' ⟨he, hm⟩ => ⟨he, ⟨w', next n.h hm⟩, rfl⟩
theorem bel_out {w w' : World} (h : ∃ n : Bel w, w' = n.to) : Below w.heap.size w w' := by
  obtain ⟨n, rfl⟩ := h
  exact n.h

theorem info9 : (Try.prog.info? 9).map (fun i => (i.zero, i.size, i.bytes)) = some (some (.string ⟨#[]⟩), 1, 16) := by kernel_rfl

/-- A row that the call owns lies in every such world. -/
theorem own_below {w w' : World} {base n : Nat} {v : Value} {xs : List Value} (h : w.ownsRow base 9 1 v n xs) (hb : Below w.heap.size w w') : w'.ownsRow base 9 1 v n xs :=
  h.kept (row := none) ⟨hb.os, hb.tape, hb.output, hb.size, fun k hk _ => hb.block k hk⟩ (by cases v.ownBlock with | none => exact .inl rfl | some k => exact .inr (by simp))


end Go.Proofs.Ytcapankhobnfeaa

/- Writers and names: plain facts for the laws. -/
namespace Go.Proofs.Ytcapankhobnfeaa
open Go.RowKit
open Pl

theorem bel_same {P : Program} {f : FuncId} {args : Array Value} {w : World} {n : Bel w} {v : Value}
    (h : Calls P f args n.to fun e w' => e = .returned v ∧ w' = n.to) : Calls P f args n.to fun e w'' => e = .returned v ∧ ∃ m : Bel w, w'' = m.to :=
  h.mono fun _ _ ⟨he, hw⟩ => ⟨he, n, hw⟩

/-- Where the root ends a name, all of it is written out. -/
theorem spl_root {n : List UInt8} {E : Nat} (hn : NAt n E) (h : E < n.length) (h0 : n[E].toNat = 0) : E + 1 = n.length ∧ n.take E ++ [0] = n := by
  refine ⟨nat_zero hn h h0, ?_⟩
  rw [← nat_root hn h h0, List.take_append_drop]
/-- A name in which nothing stands that was written before. -/
theorem spl_fresh {n : List UInt8} (h : isName n = true) : splN [] n = (n.length - 1, [0]) := by
  rcases splN_end h [] with ⟨hl, h0, h2⟩ | ⟨q, hq, _⟩
  · have := (spl_root (splN_at h []) hl h0).1
    exact Prod.ext (by simp only; omega) h2
  · simp [plc] at hq
theorem siz_fresh {n : List UInt8} (h : isName n = true) : sizW [] n = n.length := by
  have := name_ne h
  unfold sizW; rw [spl_fresh h]; simp; omega
theorem out_fresh {n : List UInt8} (h : isName n = true) (B : List UInt8) : outW B [] n = B ++ n := by
  have h1 := spl_fresh h
  rcases splN_end h [] with ⟨hl, h0, h2⟩ | ⟨q, hq, _⟩
  · have := (spl_root (splN_at h []) hl h0).2
    unfold outW
    rw [h2, this]
  · simp [plc] at hq

/-- Bytes of nought. -/
def zerosB (n : Nat) : ByteArray := ⟨(List.replicate n (0 : UInt8)).toArray⟩
theorem zerosB_size (n : Nat) : (zerosB n).size = n := by unfold zerosB; rw [toArr_size]; simp
theorem zeros_row {w : World} {base n : Nat} {v : Value} (h : w.ownsRow base 5 1 v n (madeCells (Value.int .u8 0).cells (n * 1)).toList) : w.ownsRow base 5 1 v n ((zerosB n).data.toList.map bv) := by
  rw [Nat.mul_one, show (Value.int .u8 0).cells = #[.int .u8 0] from rfl, made_zero] at h
  simpa [zerosB] using h

theorem refMay_at (s : ByteArray) (b : Bool) (w : World) (hs : s.size ≤ maxLen) (h : isName s.data.toList = b) :
    Calls Try.prog 24 #[.string s] w fun e w' => e = .returned (.bool b) ∧ Below w.heap.size w w' := by rw [← h]; exact refMay_any s w hs

/-- What a Writer's Name answers, where it is known what it leaves. -/
theorem nam_fresh {B n : List UInt8} (h : isName n = true) (hf : B.length + n.length ≤ 4096) : namE B [] n = 0 ∧ namB B [] n = B ++ n := by
  obtain ⟨h1, h2, _⟩ := nam_yes (B := B) (ms := []) h (by rw [siz_fresh h]; exact hf)
  exact ⟨h1, by rw [h2, out_fresh h]⟩
theorem nam_full {B n : List UInt8} (h : isName n = true) (hf : ¬ B.length + n.length ≤ 4096) : namE B [] n = 501 ∧ namB B [] n = B := by
  obtain ⟨h1, h2, _⟩ := nam_long (B := B) (ms := []) h (by rw [siz_fresh h]; exact hf)
  exact ⟨h1, h2⟩

/-- A name that was written before, and is not the root, is a pointer. -/
theorem spl_hit {ms : Marks} {n : List UInt8} {q : Nat} (hn : isName n = true) (h1 : n ≠ [0]) (h : plc ms n = some q) : splN ms n = (0, ptrB q) := by
  have hl := name_ne hn
  have h0 : n[0].toNat ≠ 0 := fun e => h1 (by have := nat_root (nat_start hn) hl e; simpa using this)
  exact (w_hit (w_start hn ms) hl h0 (by simpa using h)).1
theorem nam_hit {B : List UInt8} {ms : Marks} {n : List UInt8} {q : Nat} (hn : isName n = true) (h1 : n ≠ [0]) (h : plc ms n = some q) (hf : B.length + 2 ≤ 4096) : namE B ms n = 0 ∧ namB B ms n = B ++ ptrB q ∧ namM B ms n = ms := by
  have hs := spl_hit hn h1 h
  obtain ⟨a, b, c⟩ := nam_yes (B := B) (ms := ms) hn (by unfold sizW; rw [hs]; simpa [ptrB] using hf)
  refine ⟨a, by rw [b]; unfold outW; rw [hs]; simp, ?_⟩
  rw [c]
  unfold marW newM
  rw [hs, sts_end _ _ (Nat.le_refl _)]
  simp [mkM]
theorem nam_root {B : List UInt8} {ms : Marks} (hf : B.length + 1 ≤ 4096) : namE B ms [0] = 0 ∧ namB B ms [0] = B ++ [0] ∧ namM B ms [0] = ms := by
  have hn : isName [0] = true := by decide
  have hs : splN ms [0] = (0, [0]) := (w_zero (w_start hn ms) (by decide) (by decide)).1
  obtain ⟨a, b, c⟩ := nam_yes (B := B) (ms := ms) hn (by unfold sizW; rw [hs]; exact hf)
  refine ⟨a, by rw [b]; unfold outW; rw [hs]; simp, ?_⟩
  rw [c]
  unfold marW newM
  rw [hs, sts_end _ _ (Nat.le_refl _)]
  simp [mkM]

section
variable {e : List UInt8} (a c : UInt8)
theorem share_name (he : isName e = true) (h2 : e.length ≤ 200) : isName (2 :: c :: a :: e) = true := by
  have hl : Labs [2, c, a] := labs_lab (by decide) (by decide) rfl
  have := hl e
  unfold isName nm
  rw [if_neg (by simp; omega)]
  show (nmS 0 ([2, c, a] ++ e)).isSome = true
  rw [this]
  exact (name_some he).2
theorem share_len (he : isName e = true) (h1 : e ≠ [0]) : 3 ≤ e.length := by
  have hl := name_ne he
  have h0 : e[0].toNat ≠ 0 := fun h => h1 (by have := nat_root (nat_start he) hl h; simpa using this)
  have := nat_step (nat_start he) hl h0
  omega
theorem share_first (he : isName e = true) (h1 : e ≠ [0]) (h2 : e.length ≤ 200) (d : UInt8) (hd : d ≠ c) (b : UInt8) : plc (newM 0 (2 :: c :: a :: e) (splN [] (2 :: c :: a :: e)).1) (2 :: d :: b :: e) = none ∧ plc (newM 0 (2 :: c :: a :: e) (splN [] (2 :: c :: a :: e)).1) e = some 3 := by
  have hn := share_name a c he h2
  have h3 := share_len he h1
  rw [spl_fresh hn]
  obtain ⟨E, hE⟩ : ∃ E, E = (2 :: c :: a :: e).length - 1 := ⟨_, rfl⟩
  have hE5 : 5 ≤ E := by rw [hE]; simp; omega
  have hs : sts (2 :: c :: a :: e).length (2 :: c :: a :: e) 0 E = 0 :: 3 :: sts (e.length + 1) (2 :: c :: a :: e) (3 + 1 + ((2 :: c :: a :: e).getD 3 0).toNat) E := by
    show sts (e.length + 1 + 1 + 1) _ 0 E = _
    rw [sts, if_pos (by omega)]
    have e1 : 0 + 1 + ((2 :: c :: a :: e).getD 0 0).toNat = 3 := rfl
    rw [e1, sts, if_pos (by omega)]
  simp only [← hE]
  unfold newM
  rw [hs]
  have hne : ∀ x : List UInt8, x.length ≤ e.length → x ≠ 2 :: d :: b :: e := fun x hx h => by have := congrArg List.length h; simp at this; omega
  constructor
  · apply plc_none
    intro q hq
    simp only [mkM, List.mem_map, Prod.mk.injEq] at hq
    obtain ⟨p, hp, hq, _⟩ := hq
    rcases List.mem_cons.1 hp with rfl | hp
    · simp at hq; exact hd hq.1.symm
    · have hp3 : 3 ≤ p := by
        rcases List.mem_cons.1 hp with rfl | hp
        · exact Nat.le_refl _
        · have hge : ∀ (f : Nat) (n : List UInt8) (p0 e : Nat), ∀ x ∈ sts f n p0 e, p0 ≤ x := by
            intro f
            induction f with
            | zero => intro n p0 e x hx; simp [sts] at hx
            | succ f ih =>
              intro n p0 e x hx
              rw [sts] at hx
              split at hx
              · rcases List.mem_cons.1 hx with rfl | hx
                · exact Nat.le_refl _
                · have := ih _ _ _ _ hx; omega
              · simp at hx
          have := hge _ _ _ _ p hp
          omega
      exact hne _ (by rw [List.length_drop]; simp; omega) hq
  · unfold mkM
    rw [List.map_cons, List.map_cons, plc, if_neg (fun h => by have := congrArg List.length h; simp at this; omega), plc, if_pos (by simp)]
theorem share_second (he : isName e = true) (h1 : e ≠ [0]) (h2 : e.length ≤ 200) (d b : UInt8) (ms : Marks) (hp : plc ms (2 :: d :: b :: e) = none) (h3 : plc ms e = some 3) : splN ms (2 :: d :: b :: e) = (3, ptrB 3) := by
  have hn := share_name b d he h2
  have w0 := w_start hn ms
  have w1 := (w_miss w0 (by simp) (by show ¬ ((2 : UInt8).toNat = 0); decide) (by simpa using hp)).1
  have e1 : 0 + 1 + ((2 :: d :: b :: e)[0]).toNat = 3 := rfl
  rw [e1] at w1
  have hl := name_ne he
  have h0 : e[0].toNat ≠ 0 := fun h => h1 (by have := nat_root (nat_start he) hl h; simpa using this)
  exact (w_hit w1 (by simp; omega) (by simpa using h0) (by simpa using h3)).1
end

theorem all_k {w0 w : World} {g : Nat} {B : List UInt8} {ms : Marks} {F : ByteArray} (h : Holds w0 w g B ms) (hF : F.data.toList = B) :
    Calls Try.prog 64 #[.pointer (some ⟨g, 0, none⟩)] w fun e w' => e = .returned (.string F) ∧ w' = w := by
  subst hF; exact all_h h


end Go.Proofs.Ytcapankhobnfeaa

/- A header as values; what fits and may of package head give. -/
namespace Go.Proofs.Ytcapankhobnfeaa
open Go.RowKit


/-- An api.Head. -/
def headV (id : Int) (qr : Bool) (op : Int) (aa tc rd ra : Bool) (z rc : Int) : Array Value := #[.int .i64 id, .bool qr, .int .i64 op, .bool aa, .bool tc, .bool rd, .bool ra, .int .i64 z, .int .i64 rc]
/-- Four counts. -/
def cntV (a b c d : Int) : Array Value := #[.int .i64 a, .int .i64 b, .int .i64 c, .int .i64 d]
/-- Is x from 0 up, and less than p? -/
def fitI (p x : Int) : Bool := decide (0 ≤ x) && decide (x < p)
/-- May a header with these numbers be written? -/
def mayH (id op z rc a b c d : Int) : Bool := fitI 65536 id && fitI 16 op && fitI 8 z && fitI 16 rc && fitI 65536 a && fitI 65536 b && fitI 65536 c && fitI 65536 d
theorem fit_iff {p x : Int} : fitI p x = true ↔ 0 ≤ x ∧ x < p := by unfold fitI; simp

theorem fits_any (x p : Int) (n : Int) (w : World) (h : (n = 16 ∧ p = 65536) ∨ (n = 4 ∧ p = 16) ∨ (n = 3 ∧ p = 8)) :
    Calls Try.prog 91 #[.int .i64 x, .int .u64 n] w fun e w' => e = .returned (.bool (fitI p x)) ∧ w' = w := by
  by_cases h0 : 0 ≤ x
  · by_cases h1 : x < p
    · rw [fit_iff.2 ⟨h0, h1⟩]
      rcases h with ⟨rfl, rfl⟩ | ⟨rfl, rfl⟩ | ⟨rfl, rfl⟩
      all_goals
        go_enter Try.func91, Try.ntmps91
        go_wp2
        go_ret
        exact ⟨rfl, rfl⟩
    · rw [show fitI p x = false from by unfold fitI; simp; omega]
      have h2 : decide (x < p) = false := by simpa using h1
      clear h1
      rcases h with ⟨rfl, rfl⟩ | ⟨rfl, rfl⟩ | ⟨rfl, rfl⟩
      all_goals
        go_enter Try.func91, Try.ntmps91
        go_wp2
        go_ret
        exact ⟨rfl, rfl⟩
  · rw [show fitI p x = false from by unfold fitI; simp; omega]
    have h2 : decide (0 ≤ x) = false := by simpa using h0
    clear h0 h
    go_enter Try.func91, Try.ntmps91
    go_wp2
    go_ret
    exact ⟨rfl, rfl⟩

theorem fits_as (x p n : Int) (b : Bool) (w : World) (hb : fitI p x = b) (h : (n = 16 ∧ p = 65536) ∨ (n = 4 ∧ p = 16) ∨ (n = 3 ∧ p = 8)) :
    Calls Try.prog 91 #[.int .i64 x, .int .u64 n] w fun e w' => e = .returned (.bool b) ∧ w' = w := hb ▸ fits_any x p n w h

theorem size3 : Try.t3.size = 1 := by kernel_rfl
theorem idx4 (a b c d : Int) (k : Nat) (hk : k < 4) (u : World) : (Instr.index 81 (.agg (cntV a b c d)) (.int .i64 (k : Int))).run Try.prog u = .ok (.int .i64 ([a, b, c, d].getD k 0)) u := by
  have : k = 0 ∨ k = 1 ∨ k = 2 ∨ k = 3 := by omega
  rcases this with rfl | rfl | rfl | rfl <;> simp [cntV, Instr.index, run_underlying Try.underlying81, asIntOf, go_sem, part, sizeOf, size3]

theorem mayH_count {id op z rc a b c d : Int} {k : Nat} (hk : k < 4) (h : fitI 65536 ([a, b, c, d].getD k 0) = false) : mayH id op z rc a b c d = false := by
  have : k = 0 ∨ k = 1 ∨ k = 2 ∨ k = 3 := by omega
  unfold mayH
  rcases this with rfl | rfl | rfl | rfl <;> simp only [List.getD_cons_zero, List.getD_cons_succ] at h <;> simp [h]
theorem mayH_rest {id op z rc a b c d : Int} (h : ∀ j, j < 4 → fitI 65536 ([a, b, c, d].getD j 0) = true) : mayH id op z rc a b c d = (fitI 65536 id && fitI 16 op && fitI 8 z && fitI 16 rc) := by
  have h0 := h 0 (by decide)
  have h1 := h 1 (by decide)
  have h2 := h 2 (by decide)
  have h3 := h 3 (by decide)
  simp only [List.getD_cons_zero, List.getD_cons_succ] at h0 h1 h2 h3
  unfold mayH
  simp [h0, h1, h2, h3]

set_option maxRecDepth 20000 in
set_option maxHeartbeats 4000000 in
theorem mayHead_any (id : Int) (qr : Bool) (op : Int) (aa tc rd ra : Bool) (z rc a b c d : Int) (w : World) :
    Calls Try.prog 73 #[.agg (headV id qr op aa tc rd ra z rc), .agg (cntV a b c d)] w fun e w' => e = .returned (.bool (mayH id op z rc a b c d)) ∧ Below w.heap.size w w' := by
  obtain ⟨C, hC⟩ : ∃ C, C = cntV a b c d := ⟨_, rfl⟩
  have hi := idx4 a b c d
  have hb := lay (lay (Below.refl w.heap.size w) (.cells #[.int .i64 id, .bool qr, .int .i64 op, .bool aa, .bool tc, .bool rd, .bool ra, .int .i64 z, .int .i64 rc] 25)) (.cells #[.int .i64 a, .int .i64 b, .int .i64 c, .int .i64 d] 81)
  unfold headV
  unfold cntV at hi ⊢
  clear hC C
  go_enter Try.func73, Try.ntmps73
  go_wp2
  go_loopw [8] (fun i wr => ∃ k : Nat, k ≤ 4 ∧ i = .int .i64 (k : Int) ∧ (∀ j, j < k → fitI 65536 ([a, b, c, d].getD j 0) = true) ∧ wr = ((w.alloc (.cells #[.int .i64 id, .bool qr, .int .i64 op, .bool aa, .bool tc, .bool rd, .bool ra, .int .i64 z, .int .i64 rc] 25)).alloc (.cells #[.int .i64 a, .int .i64 b, .int .i64 c, .int .i64 d] 81))) (fun i _ => 4 - (intOf i).toNat)
  case atStart => exact ⟨0, by decide, rfl, fun j hj => absurd hj (Nat.not_lt_zero _), rfl⟩
  case round =>
    obtain ⟨k, hk, rfl, hf, rfl⟩ := hrel
    by_cases h4 : k < 4
    · replace hi := hi k h4
      have HF : Hid (∀ j, j < k → fitI 65536 ([a, b, c, d].getD j 0) = true) := hf
      have HNo : Hid (fitI 65536 ([a, b, c, d].getD k 0) = false → mayH id op z rc a b c d = false) := fun h => mayH_count h4 h
      have HEx : Hid (fitI 65536 ([a, b, c, d].getD k 0) = true → ∀ j, j < k + 1 → fitI 65536 ([a, b, c, d].getD j 0) = true) := fun h j hj => by
        by_cases e : j = k
        · rw [e]; exact h
        · exact hf j (by omega)
      obtain ⟨x, hx⟩ : ∃ x, x = [a, b, c, d].getD k 0 := ⟨_, rfl⟩
      rw [← hx] at hi HNo HEx
      have h4' : (k : Int) < 4 := by omega
      clear hx hf
      cases hfx : fitI 65536 x with
      | true =>
        go_wp2_with (go_at_call 91; go_must (refine (fits_as x 65536 16 true _ hfx (.inl ⟨rfl, rfl⟩)).mono ?_); rintro e w' ⟨rfl, hw⟩; obtain rfl := hw.symm)
        go_roundw
        case rel => exact ⟨k + 1, by omega, by go_num, HEx.out hfx, trivial⟩
        case measure => simp [intOf]; omega
      | false =>
        go_wp2_with (go_at_call 91; go_must (refine (fits_as x 65536 16 false _ hfx (.inl ⟨rfl, rfl⟩)).mono ?_); rintro e w' ⟨rfl, hw⟩; obtain rfl := hw.symm)
        go_ret
        exact ⟨by rw [HNo.out hfx]; rfl, hb⟩
    · have h4' : k = 4 := by omega
      subst h4'
      have HR : Hid (mayH id op z rc a b c d = (fitI 65536 id && fitI 16 op && fitI 8 z && fitI 16 rc)) := mayH_rest hf
      clear hf hi hk h4
      have t1 : True := trivial
      have t2 : True := trivial
      cases h1 : fitI 65536 id with
      | false =>
        go_wp2_with (go_at_call 91; go_must (refine (fits_as id 65536 16 false _ h1 (.inl ⟨rfl, rfl⟩)).mono ?_); rintro e w' ⟨rfl, hw⟩; obtain rfl := hw.symm)
        go_ret
        exact ⟨by rw [HR.out, h1]; rfl, hb⟩
      | true =>
        cases h2 : fitI 16 op with
        | false =>
          go_wp2_with (first
            | (go_at_call 91; have _t := t1; go_must (refine (fits_as id 65536 16 true _ h1 (.inl ⟨rfl, rfl⟩)).mono ?_); rintro e w' ⟨rfl, hw⟩; obtain rfl := hw.symm; clear t1 _t)
            | (go_at_call 91; go_must (refine (fits_as op 16 4 false _ h2 (.inr (.inl ⟨rfl, rfl⟩))).mono ?_); rintro e w' ⟨rfl, hw⟩; obtain rfl := hw.symm))
          go_ret
          exact ⟨by rw [HR.out, h1, h2]; rfl, hb⟩
        | true =>
          cases h3 : fitI 8 z with
          | false =>
            go_wp2_with (first
              | (go_at_call 91; have _t := t1; go_must (refine (fits_as id 65536 16 true _ h1 (.inl ⟨rfl, rfl⟩)).mono ?_); rintro e w' ⟨rfl, hw⟩; obtain rfl := hw.symm; clear t1 _t)
              | (go_at_call 91; have _t := t2; go_must (refine (fits_as op 16 4 true _ h2 (.inr (.inl ⟨rfl, rfl⟩))).mono ?_); rintro e w' ⟨rfl, hw⟩; obtain rfl := hw.symm; clear t2 _t)
              | (go_at_call 91; go_must (refine (fits_as z 8 3 false _ h3 (.inr (.inr ⟨rfl, rfl⟩))).mono ?_); rintro e w' ⟨rfl, hw⟩; obtain rfl := hw.symm))
            go_ret
            exact ⟨by rw [HR.out, h1, h2, h3]; rfl, hb⟩
          | true =>
            have t3 : True := trivial
            obtain ⟨r, hr⟩ : ∃ r, fitI 16 rc = r := ⟨_, rfl⟩
            go_wp2_with (first
              | (go_at_call 91; have _t := t1; go_must (refine (fits_as id 65536 16 true _ h1 (.inl ⟨rfl, rfl⟩)).mono ?_); rintro e w' ⟨rfl, hw⟩; obtain rfl := hw.symm; clear t1 _t)
              | (go_at_call 91; have _t := t2; go_must (refine (fits_as op 16 4 true _ h2 (.inr (.inl ⟨rfl, rfl⟩))).mono ?_); rintro e w' ⟨rfl, hw⟩; obtain rfl := hw.symm; clear t2 _t)
              | (go_at_call 91; have _t := t3; go_must (refine (fits_as z 8 3 true _ h3 (.inr (.inr ⟨rfl, rfl⟩))).mono ?_); rintro e w' ⟨rfl, hw⟩; obtain rfl := hw.symm; clear t3 _t)
              | (go_at_call 91; go_must (refine (fits_as rc 16 4 r _ hr (.inr (.inl ⟨rfl, rfl⟩))).mono ?_); rintro e w' ⟨rfl, hw⟩; obtain rfl := hw.symm))
            go_ret
            exact ⟨by rw [HR.out, h1, h2, h3, hr]; rfl, hb⟩

end Go.Proofs.Ytcapankhobnfeaa
