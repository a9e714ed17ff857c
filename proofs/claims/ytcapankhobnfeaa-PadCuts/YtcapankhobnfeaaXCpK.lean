/- What the document's Name and Data (compressed) give, for every argument. -/
import Derived.Test.YtcapankhobnfeaaXP2
import Derived.Test.YtcapankhobnfeaaXRdK
namespace Go.Proofs.Ytcapankhobnfeaa
open Go.RowKit
open Pl

/-- How long a string is. -/
def lenOf : Value → Nat
  | .string s => s.size
  | _ => 0
/-- The place behind, as the document keeps it. -/
def nxI : Option Nat → Int
  | none => -1
  | some y => (y : Int)

theorem nx_some (y : Nat) : nxI (some y) = (y : Int) := rfl
theorem app_take (s : ByteArray) (p k : Nat) : (s.extract p (p + 1 + k)).data.toList = (s.data.toList.drop p).take (1 + k) := by
  rw [ext_list, show p + 1 + k - p = 1 + k from by omega]

set_option maxRecDepth 20000 in
set_option maxHeartbeats 1000000 in
theorem rName_any (s : ByteArray) (p : Nat) (w : World) (hs : s.size ≤ 140737488355328) :
    Calls Try.prog 66 #[.string s, .int .i64 (p : Int)] w fun e w' => e = .returned (nmV (nameOf s.data.toList p)) ∧ Below w.heap.size w w' := by
  have hsm := max_of hs
  have hl := data_len s
  have HST : Hid (RAt s.data.toList p p [] none (nameOf s.data.toList p)) := r_start _ _
  obtain ⟨R, hR⟩ : ∃ R, R = nameOf s.data.toList p := ⟨_, rfl⟩
  rw [← hR] at HST ⊢
  clear hR
  have hb : Below w.heap.size w w := Below.refl _ _
  go_enter Try.func66, Try.ntmps66
  go_wp2
  go_loopw [1, 7, 8, 9] (fun a v fr nx wr => ∃ (p g : Nat) (o : ByteArray) (x : Option Nat) (X : Int), a = .int .i64 (p : Int) ∧ v = .string o ∧ fr = .int .i64 (g : Int) ∧ nx = .int .i64 X ∧ o.size ≤ 400 ∧ Hid (X = nxI x) ∧ Hid (∀ y, x = some y → 0 < y) ∧ Hid (RAt s.data.toList p g o.data.toList x R) ∧ Hid (Labs o.data.toList) ∧ Below w.heap.size w wr) (fun _ v fr _ _ => (intOf fr).toNat * 1000 + (500 - lenOf v))
  case atStart => exact ⟨p, p, ⟨#[]⟩, none, -1, rfl, rfl, rfl, rfl, by decide, rfl, fun y hy => by simp at hy, HST, labs_nil, hb⟩
  case round =>
    clear hb HST
    obtain ⟨p, g, o, x, X, rfl, rfl, rfl, rfl, ho4, HX, HXP, HR, HL, hb⟩ := hrel
    have hol := data_len o
    by_cases hlt : p < s.size
    · have hlt' : p < s.data.toList.length := by omega
      have hpi : (p : Int) < (s.size : Int) := by omega
      have hk := UInt8.toNat_lt (s[p])
      by_cases ho : o.size ≤ 255
      · have ho' : (o.size : Int) ≤ 255 := by omega
        have hX : (x = none ∧ X = -1 ∧ decide (X < 0) = true) ∨ (∃ y : Nat, x = some y ∧ 0 < y ∧ X = (y : Int) ∧ decide (X < 0) = false) := by
          cases x with
          | none => exact .inl ⟨rfl, HX.out, by rw [HX.out]; rfl⟩
          | some y => exact .inr ⟨y, rfl, HXP.out y rfl, HX.out, decide_eq_false (by rw [HX.out, nx_some]; omega)⟩
        clear HX HXP
        by_cases h0 : s[p].toNat = 0
        · have h0' : ((s[p].toNat : Int) == 0) = true := by simpa using h0
          by_cases h254 : o.size ≤ 254
          · have HRR : Hid (R = some (o.data.toList ++ [0], x.getD (p + 1))) := r_zero HR.out hlt' h0 (by omega)
            obtain ⟨O, hO⟩ : ∃ O : ByteArray, O = o ++ ⟨#[0]⟩ := ⟨_, rfl⟩
            have hOl : O.data.toList = o.data.toList ++ [0] := by rw [hO, app_list]
            have hOs : O.size ≤ maxLen := by unfold maxLen; rw [hO, ByteArray.size_append]; show o.size + 1 ≤ _; omega
            have HM : Hid (isName O.data.toList = true) := by unfold Hid; rw [hOl]; exact labs_name HL.out (by omega)
            have HOE : Hid (O = o ++ ⟨#[0]⟩) := hO
            have hOO := hO.symm
            clear hO
            rcases hX with ⟨rfl, rfl, hXd⟩ | ⟨y, rfl, hy, rfl, hXd⟩
            all_goals
              go_wp2_with (go_at_call 24; go_must (refine (refMay_at O true _ hOs HM.out).mono ?_); rintro e w1 ⟨rfl, b1⟩; replace hb := next hb b1; clear b1)
              go_ret3
              refine ⟨ret_nm HRR.out ?_, hb⟩
              unfold nmV
              rw [← hOl]
              rfl
          · have HRR : Hid (R = none) := r_long HR.out (by omega)
            obtain ⟨O, hO⟩ : ∃ O : ByteArray, O = o ++ ⟨#[0]⟩ := ⟨_, rfl⟩
            have hOl : O.data.toList = o.data.toList ++ [0] := by rw [hO, app_list]
            have hOs : O.size ≤ maxLen := by unfold maxLen; rw [hO, ByteArray.size_append]; show o.size + 1 ≤ _; omega
            have HM : Hid (isName O.data.toList = false) := by unfold Hid; rw [hOl]; exact not_long (by rw [List.length_append]; simp; omega)
            have hOO := hO.symm
            clear hO
            rcases hX with ⟨rfl, rfl, hXd⟩ | ⟨y, rfl, hy, rfl, hXd⟩
            all_goals
              go_wp2_with (go_at_call 24; go_must (refine (refMay_at O false _ hOs HM.out).mono ?_); rintro e w1 ⟨rfl, b1⟩; replace hb := next hb b1; clear b1)
              go_ret3
              exact ⟨ret_nm HRR.out rfl, hb⟩
        · have h0' : ((s[p].toNat : Int) == 0) = false := by simpa using h0
          by_cases h191 : 191 < s[p].toNat
          · have h191' : (191 : Int) < (s[p].toNat : Int) := by omega
            by_cases h2 : p + 2 ≤ s.size
            · have hv := val_two s p h2
              have hvl := two_lt s[p] s[p + 1]
              have hm : bits .and .i64 (val s p 2) 16383 = (ptrAt s.data.toList p : Int) := by
                have := mask (val s p 2) 14 (by decide)
                rw [show ((2 ^ 14 - 1 : Nat) : Int) = 16383 from by decide] at this
                rw [this, ptr_at s p h2, hv]
                unfold two
                omega
              obtain ⟨T, hT⟩ : ∃ T, T = ptrAt s.data.toList p := ⟨_, rfl⟩
              rw [← hT] at hm
              have HV : Hid (Calls Try.prog 44 #[.string s, .int .i64 (p : Int), .int .i64 2] wr fun e w' => e = .returned (.tuple #[.int .i64 (val s p 2), .int .i64 ((p : Int) + 2), .int .i64 0]) ∧ w' = wr) := refNum_yes s p 2 wr hsm (by decide) h2
              obtain ⟨V, hV⟩ : ∃ V, V = val s p 2 := ⟨_, rfl⟩
              rw [← hV] at HV hm
              clear hv hvl hV
              by_cases hg : T < g
              · have hg' : decide (g ≤ T) = false := by simp; omega
                have HRR : Hid (RAt s.data.toList T T o.data.toList (some (x.getD (p + 2))) R) := by unfold Hid; rw [hT]; exact r_ptr HR.out hlt' (by show 191 < s[p].toNat; exact h191) (by rw [hl]; exact h2) (by rw [← hT]; exact hg)
                clear hT
                rcases hX with ⟨rfl, rfl, hXd⟩ | ⟨y, rfl, hy, rfl, hXd⟩
                · go_wp2_with (go_at_call 44; go_must (refine HV.out.mono ?_); rintro e w' ⟨rfl, hw⟩; obtain rfl := hw.symm)
                  go_roundw
                  case rel => exact ⟨T, T, o, some (p + 2), (p : Int) + 2, rfl, rfl, rfl, rfl, ho4, by unfold Hid; rw [nx_some]; omega, fun y hy => by simp at hy; omega, HRR, HL, hb⟩
                  case measure => simp only [intOf, lenOf]; omega
                · go_wp2_with (go_at_call 44; go_must (refine HV.out.mono ?_); rintro e w' ⟨rfl, hw⟩; obtain rfl := hw.symm)
                  go_roundw
                  case rel => exact ⟨T, T, o, some y, (y : Int), rfl, rfl, rfl, rfl, ho4, by unfold Hid nxI; rfl, fun y' hy' => by simp at hy'; omega, HRR, HL, hb⟩
                  case measure => simp only [intOf, lenOf]; omega
              · have hg' : g ≤ T := by omega
                have HRR : Hid (R = none) := r_ptr_no HR.out hlt' (by show 191 < s[p].toNat; exact h191) (.inr (by rw [← hT]; exact hg'))
                clear hT
                go_wp2_with (go_at_call 44; go_must (refine HV.out.mono ?_); rintro e w' ⟨rfl, hw⟩; obtain rfl := hw.symm)
                go_ret3
                exact ⟨ret_nm HRR.out rfl, hb⟩
            · have HRR : Hid (R = none) := r_ptr_no HR.out hlt' (by show 191 < s[p].toNat; exact h191) (.inl (by rw [hl]; omega))
              have HV : Hid (Calls Try.prog 44 #[.string s, .int .i64 (p : Int), .int .i64 2] wr fun e w' => e = .returned (.tuple #[.int .i64 0, .int .i64 0, .int .i64 300]) ∧ w' = wr) := refNum_no s (p : Int) 2 wr hsm (by decide) (.inr (by omega))
              go_wp2_with (go_at_call 44; go_must (refine HV.out.mono ?_); rintro e w' ⟨rfl, hw⟩; obtain rfl := hw.symm)
              go_ret3
              exact ⟨ret_nm HRR.out rfl, hb⟩
          · have h191' : decide ((191 : Int) < (s[p].toNat : Int)) = false := by simp; omega
            by_cases h63 : 63 < s[p].toNat
            · have h63' : (63 : Int) < (s[p].toNat : Int) := by omega
              have HRR : Hid (R = none) := r_bad HR.out hlt' (by show 63 < s[p].toNat; exact h63) (by show s[p].toNat ≤ 191; omega)
              go_wp2
              go_ret3
              exact ⟨ret_nm HRR.out rfl, hb⟩
            · have h63' : decide ((63 : Int) < (s[p].toNat : Int)) = false := by simp; omega
              by_cases hcut : (s.size : Int) - (p : Int) - 1 < (s[p].toNat : Int)
              · have HRR : Hid (R = none) := r_cut HR.out hlt' h0 (by show s[p].toNat ≤ 63; omega) (by show _ ≤ p + 1 + s[p].toNat; omega)
                go_wp2
                go_ret3
                exact ⟨ret_nm HRR.out rfl, hb⟩
              · have hcut' : decide ((s.size : Int) - (p : Int) - 1 < (s[p].toNat : Int)) = false := by simpa using hcut
                have hle : p + 1 + s[p].toNat ≤ s.size := by omega
                have hsl := cut_both s p (p + 1 + s[p].toNat) (by omega) hle
                rw [show ((p + 1 + s[p].toNat : Nat) : Int) = (p : Int) + 1 + (s[p].toNat : Int) from by omega] at hsl
                have HRR : Hid (RAt s.data.toList (p + 1 + s[p].toNat) g (o ++ s.extract p (p + 1 + s[p].toNat)).data.toList x R) := by
                  unfold Hid
                  rw [app_list, app_take]
                  exact r_lab HR.out hlt' h0 (by show s[p].toNat ≤ 63; omega) (by show p + 1 + s[p].toNat ≤ _; omega) (by omega)
                have HLL : Hid (Labs (o ++ s.extract p (p + 1 + s[p].toNat)).data.toList) := by
                  unfold Hid
                  rw [app_list, app_take]
                  exact labs_step HL.out hlt' h0 (by show s[p].toNat ≤ 63; omega) (by show p + 1 + s[p].toNat ≤ _; omega)
                obtain ⟨D, hD⟩ : ∃ D, D = s.extract p (p + 1 + s[p].toNat) := ⟨_, rfl⟩
                have hDs : D.size = 1 + s[p].toNat := by rw [hD, ext_size s _ _ (by omega) hle]; omega
                rw [← hD] at hsl HRR HLL
                clear hD
                have HDS : Hid ((o ++ D).size = o.size + (1 + s[p].toNat)) := by unfold Hid; rw [ByteArray.size_append, hDs]
                have HXX : Hid (X = nxI x ∧ ∀ y, x = some y → 0 < y) := by
                  rcases hX with ⟨rfl, rfl, _⟩ | ⟨y, rfl, hy, rfl, _⟩
                  · exact ⟨rfl, fun y hy => by simp at hy⟩
                  · exact ⟨rfl, fun y' hy' => by simp at hy'; omega⟩
                clear hX
                go_wp2
                go_roundw
                case rel => exact ⟨p + 1 + s[p].toNat, g, o ++ D, x, X, by go_num, rfl, rfl, rfl, by rw [HDS.out]; omega, HXX.out.1, HXX.out.2, HRR, HLL, hb⟩
                case measure => simp only [intOf, lenOf]; rw [HDS.out]; omega
      · have ho' : decide ((o.size : Int) ≤ 255) = false := by simp; omega
        have HRR : Hid (R = none) := r_long HR.out (by omega)
        go_wp2
        go_ret3
        exact ⟨ret_nm HRR.out rfl, hb⟩
    · have hlt2 : decide (p < s.size) = false := by simpa using hlt
      have HRR : Hid (R = none) := r_past HR.out (by omega)
      go_wp2
      go_ret3
      exact ⟨ret_nm HRR.out rfl, hb⟩

theorem rName_neg (s : ByteArray) (p : Int) (w : World) (h : p < 0) :
    Calls Try.prog 66 #[.string s, .int .i64 p] w fun e w' => e = .returned (nmV none) ∧ Below w.heap.size w w' := by
  go_enter Try.func66, Try.ntmps66
  go_wp2
  go_ret3
  exact ⟨rfl, Below.refl _ _⟩

end Go.Proofs.Ytcapankhobnfeaa
