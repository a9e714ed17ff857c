/- What Name of package comp gives, for every argument. -/
import Derived.Test.YtdogjbblnjjaaabCpC
namespace Go.Proofs.Ytdogjbblnjjaaab
open Go.RowKit
open Pl

/-- What Name of package comp answers. -/
def nmV : Option (List UInt8 × Nat) → Value
  | none => .tuple #[.string ⟨#[]⟩, .int .i64 0, .int .i64 500]
  | some (r, b) => .tuple #[.string ⟨r.toArray⟩, .int .i64 (b : Int), .int .i64 0]
theorem ret_nm {R R' : Option (List UInt8 × Nat)} {v : Value} (h : R = R') (hv : v = nmV R') : Ending.returned v = .returned (nmV R) := by rw [h, hv]

/-- The five ways behind walk. -/
def Ways (s : ByteArray) (p : Nat) (o : List UInt8) (x : Option Nat) (R : Option (List UInt8 × Nat)) (e : Ending) : Prop :=
  (∃ E, e = .returned (.tuple #[.int .i64 E, .bool false]) ∧ Hid (R = none)) ∨
  (∃ (q : Nat) (_ : q < s.size), e = .returned (.tuple #[.int .i64 (q : Int), .bool true]) ∧ p ≤ q ∧ Hid (o.length + (q - p) ≤ 254) ∧ ((s[q].toNat : Int) == 0) = true ∧ Hid (R = some (o ++ ((s.data.toList.drop p).take (q - p) ++ [0]), x.getD (q + 1)))) ∨
  (∃ (q : Nat) (_ : q < s.size), e = .returned (.tuple #[.int .i64 (q : Int), .bool true]) ∧ p ≤ q ∧ Hid (o.length + (q - p) ≤ 254) ∧ ((s[q].toNat : Int) == 0) = false ∧ Hid (s[q].toNat ≤ 191 ∨ s.size < q + 2) ∧ Hid (R = none)) ∨
  (∃ (q : Nat) (_ : q < s.size) (_ : q + 2 ≤ s.size) (T : Nat), e = .returned (.tuple #[.int .i64 (q : Int), .bool true]) ∧ p ≤ q ∧ Hid (o.length + (q - p) ≤ 254) ∧ ((s[q].toNat : Int) == 0) = false ∧ 191 < s[q].toNat ∧ p ≤ T ∧ Hid (T = ptrAt s.data.toList q) ∧ Hid (R = none)) ∨
  (∃ (q : Nat) (_ : q < s.size) (_ : q + 2 ≤ s.size) (T : Nat), e = .returned (.tuple #[.int .i64 (q : Int), .bool true]) ∧ p ≤ q ∧ Hid (o.length + (q - p) ≤ 254) ∧ ((s[q].toNat : Int) == 0) = false ∧ 191 < s[q].toNat ∧ decide (p ≤ T) = false ∧ Hid (T = ptrAt s.data.toList q) ∧
    Hid (RAt s.data.toList T T (o ++ (s.data.toList.drop p).take (q - p)) (some (x.getD (q + 2))) R) ∧ Hid (Labs (o ++ (s.data.toList.drop p).take (q - p))))

theorem ways {s : ByteArray} {p : Nat} {o : List UInt8} {x : Option Nat} {R : Option (List UInt8 × Nat)} {e : Ending} (h : WkE s.data.toList p p o x R e) : Ways s p o x R e := by
  obtain ⟨E, b, rfl, h1, h2⟩ := h
  cases b with
  | false => exact .inl ⟨E, rfl, h1 rfl⟩
  | true =>
    obtain ⟨q, hq, rfl, hp, hr, hlab, hl, hk⟩ := h2 rfl
    have hqs : q < s.size := by rw [← data_len]; exact hq
    have hlen : (o ++ (s.data.toList.drop p).take (q - p)).length = o.length + (q - p) := wk_len (by omega) hp
    have hg : s.data.toList[q] = s[q] := rfl
    rw [hg] at hk
    by_cases h0 : s[q].toNat = 0
    · exact .inr (.inl ⟨q, hqs, rfl, hp, hl, by simp [h0], by unfold Hid; rw [← List.append_assoc]; exact r_zero hr hq h0 (by omega)⟩)
    · have h0' : ((s[q].toNat : Int) == 0) = false := by simpa using h0
      by_cases h1 : s[q].toNat ≤ 191
      · exact .inr (.inr (.inl ⟨q, hqs, rfl, hp, hl, h0', .inl h1, r_bad hr hq (by rw [hg]; omega) h1⟩))
      · by_cases h2 : q + 2 ≤ s.size
        · by_cases h3 : ptrAt s.data.toList q < p
          · exact .inr (.inr (.inr (.inr ⟨q, hqs, h2, _, rfl, hp, hl, h0', by omega, by simp; omega, rfl, r_ptr hr hq (by rw [hg]; omega) (by rw [data_len]; exact h2) h3, hlab⟩)))
          · exact .inr (.inr (.inr (.inl ⟨q, hqs, h2, _, rfl, hp, hl, h0', by omega, by omega, rfl, r_ptr_no hr hq (by rw [hg]; omega) (.inr (by omega))⟩)))
        · exact .inr (.inr (.inl ⟨q, hqs, rfl, hp, hl, h0', .inr (by omega), r_ptr_no hr hq (by rw [hg]; omega) (.inl (by rw [data_len]; omega))⟩))

theorem row_form {w : World} {base e n : Nat} {v : Value} {xs : List Value} (h : w.ownsRow base e 1 v n xs) (hv : ¬ v = .slice none 0 0) : ∃ g cap, v = .slice (some ⟨g, 0, none⟩) n cap := by
  rcases h.2 with ⟨h1, _⟩ | ⟨g, cap, cur, h1, _⟩
  · exact absurd h1 hv
  · exact ⟨g, cap, h1⟩
theorem own_drew {w w' : World} {base e z n : Nat} {v : Value} {xs : List Value} (h : w.ownsRow base e z v n xs) (hd : ∃ m, w' = w.drewN m) : w'.ownsRow base e z v n xs := by
  obtain ⟨m, rfl⟩ := hd; exact h
theorem str_ext (s : ByteArray) (i j : Nat) : Lib.strCells (s.extract i j) = ((s.data.toList.drop i).take (j - i)).map bv := by
  show (s.extract i j).data.toList.map bv = _
  rw [ext_list]
theorem ext_size (s : ByteArray) (p q : Nat) (hp : p ≤ q) (hq : q ≤ s.size) : (s.extract p q).size = q - p := by simp; omega
theorem cut_both (s : ByteArray) (i j : Nat) (h : i ≤ j) (hj : j ≤ s.size) (u : World) : (Instr.slice 9 (.string s) (some (.int .i64 (i : Int))) (some (.int .i64 (j : Int))) none).run Try.prog u = .ok (.string (s.extract i j)) u := by
  have := run_slice_string (P := Try.prog) u 9 s .i64 .i64 (i : Int) (j : Int) Try.underlying9 (by omega) (by omega) (by omega)
  rw [this]; rfl

set_option maxRecDepth 20000 in
set_option maxHeartbeats 1000000 in
theorem cName_any (s : ByteArray) (p : Nat) (w : World) (hs : s.size ≤ 140737488355328) :
    Calls Try.prog 49 #[.string s, .int .i64 (p : Int)] w fun e w' => e = .returned (nmV (nameOf s.data.toList p)) ∧ Below w.heap.size w w' := by
  obtain ⟨i0, hi, hz0, hz1, hz2⟩ := info_parts info5
  have HST : Hid (RAt s.data.toList p p [] none (nameOf s.data.toList p)) := r_start _ _
  obtain ⟨R, hR⟩ : ∃ R, R = nameOf s.data.toList p := ⟨_, rfl⟩
  rw [← hR] at HST ⊢
  clear hR
  have hb : Below w.heap.size w w := Below.refl _ _
  go_enter Try.func49, Try.ntmps49
  go_wp2_with (at_make; refine wpList_make_own _ rfl _ _ 27 rfl w.heap.size 5 i0 (.int .u8 0) 1 Try.underlying27 hi hz0 hz1 .i64 .i64 _ 255 rfl rfl rfl (by rw [hz2]; omega) (by unfold maxLen; omega) hb.size ?_; intro w2 hown hgrow; replace hb := next hb (below_of hgrow); clear hgrow)
  go_loopw [7, 8, 9] (fun v st be wr => ∃ (g cap n p b : Nat) (o : List UInt8) (x : Option Nat), v = .slice (some ⟨g, 0, none⟩) n cap ∧ st = .int .i64 (p : Int) ∧ be = .int .i64 (b : Int) ∧ n ≤ 254 ∧ b ≤ 140737488355330 ∧ Hid (n = o.length) ∧ Hid (b = x.getD 0) ∧ Hid (∀ y, x = some y → 0 < y) ∧ Hid (RAt s.data.toList p p o x R) ∧ Hid (Labs o) ∧ wr.ownsRow w.heap.size 5 1 v n (o.map bv) ∧ Below w.heap.size w wr) (fun _ st _ _ => (intOf st).toNat)
  case atStart => exact ⟨_, _, 0, p, 0, [], none, rfl, rfl, rfl, by decide, by decide, rfl, rfl, fun y hy => by simp at hy, HST, labs_nil, hown, hb⟩
  case round =>
    clear hown hb HST
    obtain ⟨g, cap, n, p, b, o, x, rfl, rfl, rfl, hn, hb47, HN, HB, HX, HR, HL, hown, hb⟩ := hrel
    have hwk := fun u => walk_any s p p o x R (254 - (n : Int)) u hs (by rw [HN.out]) (by rw [← HN.out]; exact hn) HR.out HL.out
    have HWK : Hid (∀ u, Calls Try.prog 60 #[.string s, .int .i64 (p : Int), .int .i64 (254 - (n : Int))] u fun e w' => WkE s.data.toList p p o x R e ∧ w' = u) := hwk
    clear hwk HR
    have hxb : (x = none ∧ ((b : Int) == 0) = true) ∨ (x = some b ∧ ((b : Int) == 0) = false) := by
      cases x with
      | none => exact .inl ⟨rfl, by have := HB.out; simp at this ⊢; exact this⟩
      | some y => have e : b = y := HB.out; have := HX.out y rfl; exact .inr ⟨by rw [e], by simp; omega⟩
    clear HB HX
    rcases hxb with ⟨rfl, hbz⟩ | ⟨rfl, hbz⟩
    all_goals
      go_wp2_with (first
        | (go_at_call 60; go_must (refine (HWK.out _).mono ?_); rintro e w' ⟨hwk, hw⟩; obtain rfl := hw.symm; rcases ways hwk with ⟨E, rfl, HR⟩ | ⟨q, hq, rfl, hpq, HLQ, h0, HR⟩ | ⟨q, hq, rfl, hpq, HLQ, h0, HNO, HR⟩ | ⟨q, hq, hq2, T, rfl, hpq, HLQ, h0, h3, hge, HT, HR⟩ | ⟨q, hq, hq2, T, rfl, hpq, HLQ, h0, h3, hge, HT, HR, HL2⟩ <;> clear hwk)
        | (at_builtin; have _t := HL; refine Lib.wpList_append_own_string _ rfl (.tmp 28) (.tmp 32) 27 9 rfl w.heap.size 5 i0 Try.underlying27 Try.underlying9 hi hz0 hz1 hz2 (.slice (some ⟨g, 0, none⟩) n cap) n _ rfl hown (s.extract p q) rfl (by rw [ext_size s p q hpq (by omega)]; have := HLQ.out; unfold maxLen; omega) (by rw [ext_size s p q hpq (by omega)]; have := HLQ.out; omega) hb.size ?_; intro v1 w1 own1 grow1 nil1; rw [ext_size s p q hpq (by omega), str_ext] at own1; obtain ⟨g1, cap1, rfl⟩ := row_form own1 (fun e => absurd (nil1.1 e).1 (by simp)); replace hb := hb.grown grow1 hb.size (fun k e => (hown.lt k e).1); have hle : n + (q - p) ≤ 254 := (by rw [HN.out]; exact HLQ.out); clear HL hown grow1 nil1 HLQ)
        | (at_builtin; refine Lib.wpList_append_own_string _ rfl (.tmp 42) (.const (.string ⟨#[0]⟩)) 27 9 rfl w.heap.size 5 i0 Try.underlying27 Try.underlying9 hi hz0 hz1 hz2 _ (n + (q - p)) _ rfl own1 ⟨#[0]⟩ rfl (by unfold maxLen; show n + (q - p) + 1 ≤ _; omega) (by show n + (q - p) + 1 ≤ _; omega) hb.size ?_; intro v2 w2 own2 grow2 nil2; replace hb := hb.grown grow2 hb.size (fun k e => (own1.lt k e).1); have own3 : w2.ownsRow w.heap.size 5 1 v2 (n + (q - p) + 1) ((o ++ ((s.data.toList.drop p).take (q - p) ++ [0])).map bv) := (by rw [← List.append_assoc, List.map_append, List.map_append]; exact own2); clear own1 own2 grow2 nil2)
        | (refine wpList_string _ rfl (.tmp 43) rfl w.heap.size (n + (q - p) + 1) _ _ rfl own3 ?_)
        | (go_at_call 61; go_must (first | refine (target_no s q _ hs hq HNO.out).mono ?_ | refine (target_yes s q _ hs hq2 h3).mono ?_); first | (rintro e w2 ⟨rfl, hw⟩; obtain rfl := hw.symm) | (rw [← HT.out]; rintro e w2 ⟨rfl, hw⟩; replace own1 := own_drew own1 hw; replace hb := next hb (below_drew hw); clear hw)))
      · go_ret3
        exact ⟨ret_nm HR.out rfl, hb⟩
      · go_ret3
        exact ⟨ret_nm HR.out rfl, hb⟩
      · go_ret3
        exact ⟨ret_nm HR.out rfl, hb⟩
      · go_ret3
        exact ⟨ret_nm HR.out rfl, hb⟩
      · go_roundw
        case rel =>
          first
          | exact ⟨g1, cap1, n + (q - p), T, q + 2, _, some (q + 2), rfl, rfl, by go_num, hle, by omega, by unfold Hid; rw [wk_len (by rw [data_len]; omega) hpq, HN.out], by unfold Hid; rfl, fun y hy => by simp at hy; omega, HR, HL2, by rw [List.map_append]; exact own1, hb⟩
          | exact ⟨g1, cap1, n + (q - p), T, b, _, some b, rfl, rfl, rfl, hle, hb47, by unfold Hid; rw [wk_len (by rw [data_len]; omega) hpq, HN.out], by unfold Hid; rfl, fun y hy => by simp at hy hbz; omega, HR, HL2, by rw [List.map_append]; exact own1, hb⟩
        case measure => simp [intOf]; simp at hge; omega

theorem cName_neg (s : ByteArray) (p : Int) (w : World) (h : p < 0) :
    Calls Try.prog 49 #[.string s, .int .i64 p] w fun e w' => e = .returned (nmV none) ∧ Below w.heap.size w w' := by
  go_enter Try.func49, Try.ntmps49
  go_wp2
  go_ret3
  exact ⟨rfl, Below.refl _ _⟩

end Go.Proofs.Ytdogjbblnjjaaab
