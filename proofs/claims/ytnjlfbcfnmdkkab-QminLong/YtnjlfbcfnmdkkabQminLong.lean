/- QminLong holds: for every many, count and one, a name of so many labels is told in steps of which those behind the first ones differ by one label at most. -/
import Derived.Test.YtnjlfbcfnmdkkabQmI
namespace Go.Proofs.Ytnjlfbcfnmdkkab.qminLong
open Go.ChangeShapes Go.WideShapes Go.ChangeAt Go.RowKit
open Go.ChangeMaps (open_string shut_string)
open Pl

set_option maxRecDepth 20000 in
set_option maxHeartbeats 4000000 in
theorem long (a b e0 c o : Int) (k : Nat) (hk : k ≤ 126) (hk1 : 1 ≤ k) (ha : bits .and .i64 a 127 = (k : Int) - 1) (hc : bits .and .i64 b 15 = c - 1) (ho : bits .and .i64 e0 7 = o) (c1 : 1 ≤ c ∧ c ≤ 16) (o1 : 0 ≤ o ∧ o ≤ 7) (w : World) :
    Calls Try.prog 3 #[.int .i64 a, .int .i64 b, .int .i64 e0] w fun e w' => e = .returned (.bool true) ∧ Below w.heap.size w w' := by
  have ha2 : 1 + ((k : Int) - 1) = (k : Int) := by omega
  have ha3 : decide ((126 : Int) < (k : Int)) = false := by simp; omega
  have hc2 : 1 + (c - 1) = c := by omega
  go_enter Try.func3, Try.ntmps3
  go_wp2_with (go_at_call 4; go_must (refine (Qm.awake_any _).mono ?_); rintro e w1 ⟨rfl, b1⟩; have HB1 : Hid (Below w.heap.size w w1) := b1; clear b1)
  go_loopw [10, 11] (fun u v wr => ∃ (i : Nat) (V : ByteArray), u = .string V ∧ v = .int .i64 (i : Int) ∧ i ≤ k ∧ V.data.toList = nmL i ∧ Below w.heap.size w wr) (fun _ v _ => 200 - (intOf v).toNat)
  case atStart => exact ⟨0, ⟨#[0]⟩, rfl, rfl, by omega, rfl, HB1.out⟩
  case round =>
    clear HB1
    obtain ⟨i, V, rfl, rfl, hi, hV, hbw⟩ := hrel
    have HB : Hid (Below w.heap.size w wr) := hbw
    clear hbw
    by_cases hik : i < k
    · obtain ⟨U, hU⟩ : ∃ U : ByteArray, U = (⟨#[1, 97]⟩ : ByteArray) ++ V := ⟨_, rfl⟩
      have hUl : U.data.toList = nmL (i + 1) := by rw [hU, ByteArray.data_append, Array.toList_append, hV, nmL_succ]; rfl
      have hVz : V.size ≤ 255 := by
        have h1 : V.data.toList.length = 2 * i + 1 := by rw [hV, nmL_len]
        have e : V.size = V.data.toList.length := by simp
        omega
      have zz1 : ∀ u : World, (Op.stringOp .add ⟨#[1, 97]⟩ V).run Try.prog u = .ok (.string U) u := fun u => by
        rw [hU]
        exact run_string_add_sum u _ V (by have h2 : (⟨#[1, 97]⟩ : ByteArray).size = 2 := rfl; omega)
      have HU : Hid (U.data.toList = nmL (i + 1)) := hUl
      have hik' : (i : Int) < k := by omega
      clear hV hUl hU
      go_wp2
      go_roundw
      case rel => exact ⟨i + 1, U, rfl, by go_num, by omega, HU.out, HB.out⟩
      case measure => simp [intOf]; omega
    · have hie : k = i := by omega
      subst hie
      obtain ⟨S, T, hnx, hS3, hS4⟩ := asked (n := V) (by omega) (by omega) hV c1 o1
      have hVs : V.size ≤ maxLen := Qm.big (by rw [hV]; exact (nmL_name (by omega)).1)
      have HNX : Hid (∀ u, Calls Try.prog 7 #[.agg #[.string V, .int .i64 9, .string ⟨#[]⟩, .string ⟨#[0]⟩, .int .i64 0, .bool false, .int .i64 0, .int .i64 0], .int .i64 c, .int .i64 o] u fun e w' => e = .returned (.tuple #[.agg #[.string S, .int .i64 T], .int .i64 0]) ∧ Below u.heap.size u w') := fun u => Qm.next_as ⟨V, 9, ⟨#[]⟩, ⟨#[0]⟩, 0, false, 0, 0⟩ c o _ u hVs (by show (⟨#[0]⟩ : ByteArray).size ≤ maxLen; decide) hnx
      clear hV hnx hVs hi hik
      go_wp2
      obtain ⟨we, hwe⟩ : ∃ z, z = wr := ⟨_, rfl⟩
      subst hwe
      go_loopw [12, 13, 14, 15] (fun u v x y wx => ∃ (s : Nat) (l m1 m2 : Int), u = .int .i64 l ∧ v = .int .i64 (s : Int) ∧ x = .int .i64 m1 ∧ y = .int .i64 m2 ∧ Bt k c o s l m1 m2 ∧ Below w.heap.size w wx) (fun _ v _ _ _ => 200 - (intOf v).toNat)
      case atStart => exact ⟨0, (k : Int), 1000, 0, rfl, rfl, rfl, rfl, Bt.start (by omega) c1.1 o1.1, HB.out⟩
      case round =>
        clear HB
        obtain ⟨s, l, m1, m2, rfl, rfl, rfl, rfl, hb, hbw⟩ := hrel
        have HB2 : Hid (Below w.heap.size w wr) := hbw
        have hl0 := hb.l0
        have hlk := hb.lk
        have hsl := hb.sl
        have hm1 := hb.b1
        have hm2 := hb.b2
        have hs17 : (s : Int) ≤ 17 := by omega
        clear hbw
        by_cases hl : 0 < l
        · obtain ⟨Z, hz, z1, z2, zone, hn⟩ := hb.step (by omega) c1 o1 hl
          have HSZ : Hid (∀ u, Calls Try.prog 5 #[.int .i64 (s : Int), .int .i64 l, .int .i64 c, .int .i64 o] u fun e w' => e = .returned (.tuple #[.int .i64 Z, .int .i64 0]) ∧ Below u.heap.size u w') := fun u => Qm.size_as _ _ _ _ _ u hz
          have hlZ : decide (l < Z) = false := by simp; omega
          have hl126 : l ≤ 126 := by omega
          clear hb hz HNX hS3 hS4 hsl
          by_cases hso : (s : Int) < o
          · obtain rfl := zone hso
            have HN : Hid (Bt k c o (s + 1) (l - 1) m1 m2) := by
              rw [if_neg (by omega), if_neg (by omega)] at hn
              exact hn
            have hso' : decide (o ≤ (s : Int)) = false := by simp; omega
            clear hn zone
            go_wp2_with (first
              | (go_at_call 5; go_must (refine (HSZ.out _).mono ?_); rintro e w3 ⟨rfl, b3⟩; have HB3 : Hid (Below w.heap.size w w3) := next HB2.out b3; clear b3)
              | (go_at_call 6; refine (num_any _ _).mono ?_; rintro e w' ⟨rfl, hw⟩; obtain rfl := hw.symm))
            go_roundw
            case rel => exact ⟨s + 1, l - 1, m1, m2, rfl, by go_num, rfl, rfl, HN.out, HB3.out⟩
            case measure => simp [intOf]; omega
          · have hso' : o ≤ (s : Int) := by omega
            clear hso zone
            by_cases hsc : (s : Int) < c
            · rw [if_pos ⟨hso', hsc⟩, if_pos ⟨hso', hsc⟩] at hn
              have hso2 : decide ((s : Int) < o) = false := by simp; omega
              by_cases h1 : Z < m1
              · by_cases h2 : m2 < Z
                · have HN : Hid (Bt k c o (s + 1) (l - Z) Z Z) := by
                    rw [show min m1 Z = Z from by omega, show max m2 Z = Z from by omega] at hn
                    exact hn
                  clear hn
                  go_wp2_with (first
                    | (go_at_call 5; go_must (refine (HSZ.out _).mono ?_); rintro e w3 ⟨rfl, b3⟩; have HB3 : Hid (Below w.heap.size w w3) := next HB2.out b3; clear b3)
                    | (go_at_call 6; refine (num_any _ _).mono ?_; rintro e w' ⟨rfl, hw⟩; obtain rfl := hw.symm))
                  go_roundw
                  case rel => exact ⟨s + 1, l - Z, Z, Z, rfl, by go_num, rfl, rfl, HN.out, HB3.out⟩
                  case measure => simp [intOf]; omega
                · have HN : Hid (Bt k c o (s + 1) (l - Z) Z m2) := by
                    rw [show min m1 Z = Z from by omega, show max m2 Z = m2 from by omega] at hn
                    exact hn
                  have h2' : decide (m2 < Z) = false := by simpa using h2
                  clear hn
                  go_wp2_with (first
                    | (go_at_call 5; go_must (refine (HSZ.out _).mono ?_); rintro e w3 ⟨rfl, b3⟩; have HB3 : Hid (Below w.heap.size w w3) := next HB2.out b3; clear b3)
                    | (go_at_call 6; refine (num_any _ _).mono ?_; rintro e w' ⟨rfl, hw⟩; obtain rfl := hw.symm))
                  go_roundw
                  case rel => exact ⟨s + 1, l - Z, Z, m2, rfl, by go_num, rfl, rfl, HN.out, HB3.out⟩
                  case measure => simp [intOf]; omega
              · have h1' : decide (Z < m1) = false := by simpa using h1
                by_cases h2 : m2 < Z
                · have HN : Hid (Bt k c o (s + 1) (l - Z) m1 Z) := by
                    rw [show min m1 Z = m1 from by omega, show max m2 Z = Z from by omega] at hn
                    exact hn
                  clear hn
                  go_wp2_with (first
                    | (go_at_call 5; go_must (refine (HSZ.out _).mono ?_); rintro e w3 ⟨rfl, b3⟩; have HB3 : Hid (Below w.heap.size w w3) := next HB2.out b3; clear b3)
                    | (go_at_call 6; refine (num_any _ _).mono ?_; rintro e w' ⟨rfl, hw⟩; obtain rfl := hw.symm))
                  go_roundw
                  case rel => exact ⟨s + 1, l - Z, m1, Z, rfl, by go_num, rfl, rfl, HN.out, HB3.out⟩
                  case measure => simp [intOf]; omega
                · have HN : Hid (Bt k c o (s + 1) (l - Z) m1 m2) := by
                    rw [show min m1 Z = m1 from by omega, show max m2 Z = m2 from by omega] at hn
                    exact hn
                  have h2' : decide (m2 < Z) = false := by simpa using h2
                  clear hn
                  go_wp2_with (first
                    | (go_at_call 5; go_must (refine (HSZ.out _).mono ?_); rintro e w3 ⟨rfl, b3⟩; have HB3 : Hid (Below w.heap.size w w3) := next HB2.out b3; clear b3)
                    | (go_at_call 6; refine (num_any _ _).mono ?_; rintro e w' ⟨rfl, hw⟩; obtain rfl := hw.symm))
                  go_roundw
                  case rel => exact ⟨s + 1, l - Z, m1, m2, rfl, by go_num, rfl, rfl, HN.out, HB3.out⟩
                  case measure => simp [intOf]; omega
            · have HN : Hid (Bt k c o (s + 1) (l - Z) m1 m2) := by
                rw [if_neg (by omega), if_neg (by omega)] at hn
                exact hn
              have hsc' : decide ((s : Int) < c) = false := by simpa using hsc
              have hso2 : decide ((s : Int) < o) = false := by simp; omega
              clear hn
              go_wp2_with (first
                | (go_at_call 5; go_must (refine (HSZ.out _).mono ?_); rintro e w3 ⟨rfl, b3⟩; have HB3 : Hid (Below w.heap.size w w3) := next HB2.out b3; clear b3)
                | (go_at_call 6; refine (num_any _ _).mono ?_; rintro e w' ⟨rfl, hw⟩; obtain rfl := hw.symm))
              go_roundw
              case rel => exact ⟨s + 1, l - Z, m1, m2, rfl, by go_num, rfl, rfl, HN.out, HB3.out⟩
              case measure => simp [intOf]; omega
        · have hl' : decide (0 < l) = false := by simpa using hl
          have hgap := hb.gap
          have HS3 : Hid (3 ≤ S.size) := hS3
          clear hb
          go_wp2_with (first
            | (go_at_call 7; go_must (refine (HNX.out _).mono ?_); rintro e w3 ⟨rfl, b3⟩; have HB3 : Hid (Below w.heap.size w (w3.alloc (.cells #[.string S, .int .i64 T] 28))) := lay (next HB2.out b3) _; have s0 : (w3.alloc (.cells #[.string S, .int .i64 T] 28)).cell? ⟨w3.heap.size, 0, none⟩ = some (.string S) := (Blk.new w3 #[.string S, .int .i64 T] 28).cell 0; clear b3)
            | (go_at_call 6; refine (num_any _ _).mono ?_; rintro e w' ⟨rfl, hw⟩; obtain rfl := hw.symm))
          all_goals go_ret
          all_goals exact ⟨ret_bool (by have := HS3.out; simp; omega), HB3.out⟩

set_option maxRecDepth 20000 in
set_option maxHeartbeats 4000000 in
theorem most (a b e0 c o : Int) (ha : bits .and .i64 a 127 = 126 ∨ bits .and .i64 a 127 = 127) (hc : bits .and .i64 b 15 = c - 1) (ho : bits .and .i64 e0 7 = o) (c1 : 1 ≤ c ∧ c ≤ 16) (o1 : 0 ≤ o ∧ o ≤ 7) (w : World) :
    Calls Try.prog 3 #[.int .i64 a, .int .i64 b, .int .i64 e0] w fun e w' => e = .returned (.bool true) ∧ Below w.heap.size w w' := by
  obtain ⟨x, hx, hx1⟩ : ∃ x, bits .and .i64 a 127 = x ∧ (126 : Int) < 1 + x := ⟨_, rfl, by omega⟩
  have hx2 : x ≤ 127 := by omega
  have hx0 : 0 ≤ x := by omega
  clear ha
  have hc2 : 1 + (c - 1) = c := by omega
  go_enter Try.func3, Try.ntmps3
  go_wp2_with (go_at_call 4; go_must (refine (Qm.awake_any _).mono ?_); rintro e w1 ⟨rfl, b1⟩; have HB1 : Hid (Below w.heap.size w w1) := b1; clear b1)
  go_loopw [10, 11] (fun u v wr => ∃ (i : Nat) (V : ByteArray), u = .string V ∧ v = .int .i64 (i : Int) ∧ i ≤ 126 ∧ V.data.toList = nmL i ∧ Below w.heap.size w wr) (fun _ v _ => 200 - (intOf v).toNat)
  case atStart => exact ⟨0, ⟨#[0]⟩, rfl, rfl, by omega, rfl, HB1.out⟩
  case round =>
    clear HB1
    obtain ⟨i, V, rfl, rfl, hi, hV, hbw⟩ := hrel
    have HB : Hid (Below w.heap.size w wr) := hbw
    clear hbw
    by_cases hik : i < 126
    · obtain ⟨U, hU⟩ : ∃ U : ByteArray, U = (⟨#[1, 97]⟩ : ByteArray) ++ V := ⟨_, rfl⟩
      have hUl : U.data.toList = nmL (i + 1) := by rw [hU, ByteArray.data_append, Array.toList_append, hV, nmL_succ]; rfl
      have hVz : V.size ≤ 255 := by
        have h1 : V.data.toList.length = 2 * i + 1 := by rw [hV, nmL_len]
        have e : V.size = V.data.toList.length := by simp
        omega
      have zz1 : ∀ u : World, (Op.stringOp .add ⟨#[1, 97]⟩ V).run Try.prog u = .ok (.string U) u := fun u => by
        rw [hU]
        exact run_string_add_sum u _ V (by have h2 : (⟨#[1, 97]⟩ : ByteArray).size = 2 := rfl; omega)
      have HU : Hid (U.data.toList = nmL (i + 1)) := hUl
      have hik' : (i : Int) < 126 := by omega
      clear hV hUl hU
      go_wp2
      go_roundw
      case rel => exact ⟨i + 1, U, rfl, by go_num, by omega, HU.out, HB.out⟩
      case measure => simp [intOf]; omega
    · have hie : 126 = i := by omega
      subst hie
      obtain ⟨S, T, hnx, hS3, hS4⟩ := asked (n := V) (by omega) (by omega) hV c1 o1
      have hVs : V.size ≤ maxLen := Qm.big (by rw [hV]; exact (nmL_name (by omega)).1)
      have HNX : Hid (∀ u, Calls Try.prog 7 #[.agg #[.string V, .int .i64 9, .string ⟨#[]⟩, .string ⟨#[0]⟩, .int .i64 0, .bool false, .int .i64 0, .int .i64 0], .int .i64 c, .int .i64 o] u fun e w' => e = .returned (.tuple #[.agg #[.string S, .int .i64 T], .int .i64 0]) ∧ Below u.heap.size u w') := fun u => Qm.next_as ⟨V, 9, ⟨#[]⟩, ⟨#[0]⟩, 0, false, 0, 0⟩ c o _ u hVs (by show (⟨#[0]⟩ : ByteArray).size ≤ maxLen; decide) hnx
      clear hV hnx hVs hi hik
      rw [show ((126 : Nat) : Int) = 126 from rfl]
      go_wp2
      obtain ⟨we, hwe⟩ : ∃ z, z = wr := ⟨_, rfl⟩
      subst hwe
      go_loopw [12, 13, 14, 15] (fun u v x y wx => ∃ (s : Nat) (l m1 m2 : Int), u = .int .i64 l ∧ v = .int .i64 (s : Int) ∧ x = .int .i64 m1 ∧ y = .int .i64 m2 ∧ Bt 126 c o s l m1 m2 ∧ Below w.heap.size w wx) (fun _ v _ _ _ => 200 - (intOf v).toNat)
      case atStart => exact ⟨0, (126 : Int), 1000, 0, rfl, rfl, rfl, rfl, Bt.start (by omega) c1.1 o1.1, HB.out⟩
      case round =>
        clear HB
        obtain ⟨s, l, m1, m2, rfl, rfl, rfl, rfl, hb, hbw⟩ := hrel
        have HB2 : Hid (Below w.heap.size w wr) := hbw
        have hl0 := hb.l0
        have hlk := hb.lk
        have hsl := hb.sl
        have hm1 := hb.b1
        have hm2 := hb.b2
        have hs17 : (s : Int) ≤ 17 := by omega
        clear hbw
        by_cases hl : 0 < l
        · obtain ⟨Z, hz, z1, z2, zone, hn⟩ := hb.step (by omega) c1 o1 hl
          have HSZ : Hid (∀ u, Calls Try.prog 5 #[.int .i64 (s : Int), .int .i64 l, .int .i64 c, .int .i64 o] u fun e w' => e = .returned (.tuple #[.int .i64 Z, .int .i64 0]) ∧ Below u.heap.size u w') := fun u => Qm.size_as _ _ _ _ _ u hz
          have hlZ : decide (l < Z) = false := by simp; omega
          have hl126 : l ≤ 126 := by omega
          clear hb hz HNX hS3 hS4 hsl
          by_cases hso : (s : Int) < o
          · obtain rfl := zone hso
            have HN : Hid (Bt 126 c o (s + 1) (l - 1) m1 m2) := by
              rw [if_neg (by omega), if_neg (by omega)] at hn
              exact hn
            have hso' : decide (o ≤ (s : Int)) = false := by simp; omega
            clear hn zone
            go_wp2_with (first
              | (go_at_call 5; go_must (refine (HSZ.out _).mono ?_); rintro e w3 ⟨rfl, b3⟩; have HB3 : Hid (Below w.heap.size w w3) := next HB2.out b3; clear b3)
              | (go_at_call 6; refine (num_any _ _).mono ?_; rintro e w' ⟨rfl, hw⟩; obtain rfl := hw.symm))
            go_roundw
            case rel => exact ⟨s + 1, l - 1, m1, m2, rfl, by go_num, rfl, rfl, HN.out, HB3.out⟩
            case measure => simp [intOf]; omega
          · have hso' : o ≤ (s : Int) := by omega
            clear hso zone
            by_cases hsc : (s : Int) < c
            · rw [if_pos ⟨hso', hsc⟩, if_pos ⟨hso', hsc⟩] at hn
              have hso2 : decide ((s : Int) < o) = false := by simp; omega
              by_cases h1 : Z < m1
              · by_cases h2 : m2 < Z
                · have HN : Hid (Bt 126 c o (s + 1) (l - Z) Z Z) := by
                    rw [show min m1 Z = Z from by omega, show max m2 Z = Z from by omega] at hn
                    exact hn
                  clear hn
                  go_wp2_with (first
                    | (go_at_call 5; go_must (refine (HSZ.out _).mono ?_); rintro e w3 ⟨rfl, b3⟩; have HB3 : Hid (Below w.heap.size w w3) := next HB2.out b3; clear b3)
                    | (go_at_call 6; refine (num_any _ _).mono ?_; rintro e w' ⟨rfl, hw⟩; obtain rfl := hw.symm))
                  go_roundw
                  case rel => exact ⟨s + 1, l - Z, Z, Z, rfl, by go_num, rfl, rfl, HN.out, HB3.out⟩
                  case measure => simp [intOf]; omega
                · have HN : Hid (Bt 126 c o (s + 1) (l - Z) Z m2) := by
                    rw [show min m1 Z = Z from by omega, show max m2 Z = m2 from by omega] at hn
                    exact hn
                  have h2' : decide (m2 < Z) = false := by simpa using h2
                  clear hn
                  go_wp2_with (first
                    | (go_at_call 5; go_must (refine (HSZ.out _).mono ?_); rintro e w3 ⟨rfl, b3⟩; have HB3 : Hid (Below w.heap.size w w3) := next HB2.out b3; clear b3)
                    | (go_at_call 6; refine (num_any _ _).mono ?_; rintro e w' ⟨rfl, hw⟩; obtain rfl := hw.symm))
                  go_roundw
                  case rel => exact ⟨s + 1, l - Z, Z, m2, rfl, by go_num, rfl, rfl, HN.out, HB3.out⟩
                  case measure => simp [intOf]; omega
              · have h1' : decide (Z < m1) = false := by simpa using h1
                by_cases h2 : m2 < Z
                · have HN : Hid (Bt 126 c o (s + 1) (l - Z) m1 Z) := by
                    rw [show min m1 Z = m1 from by omega, show max m2 Z = Z from by omega] at hn
                    exact hn
                  clear hn
                  go_wp2_with (first
                    | (go_at_call 5; go_must (refine (HSZ.out _).mono ?_); rintro e w3 ⟨rfl, b3⟩; have HB3 : Hid (Below w.heap.size w w3) := next HB2.out b3; clear b3)
                    | (go_at_call 6; refine (num_any _ _).mono ?_; rintro e w' ⟨rfl, hw⟩; obtain rfl := hw.symm))
                  go_roundw
                  case rel => exact ⟨s + 1, l - Z, m1, Z, rfl, by go_num, rfl, rfl, HN.out, HB3.out⟩
                  case measure => simp [intOf]; omega
                · have HN : Hid (Bt 126 c o (s + 1) (l - Z) m1 m2) := by
                    rw [show min m1 Z = m1 from by omega, show max m2 Z = m2 from by omega] at hn
                    exact hn
                  have h2' : decide (m2 < Z) = false := by simpa using h2
                  clear hn
                  go_wp2_with (first
                    | (go_at_call 5; go_must (refine (HSZ.out _).mono ?_); rintro e w3 ⟨rfl, b3⟩; have HB3 : Hid (Below w.heap.size w w3) := next HB2.out b3; clear b3)
                    | (go_at_call 6; refine (num_any _ _).mono ?_; rintro e w' ⟨rfl, hw⟩; obtain rfl := hw.symm))
                  go_roundw
                  case rel => exact ⟨s + 1, l - Z, m1, m2, rfl, by go_num, rfl, rfl, HN.out, HB3.out⟩
                  case measure => simp [intOf]; omega
            · have HN : Hid (Bt 126 c o (s + 1) (l - Z) m1 m2) := by
                rw [if_neg (by omega), if_neg (by omega)] at hn
                exact hn
              have hsc' : decide ((s : Int) < c) = false := by simpa using hsc
              have hso2 : decide ((s : Int) < o) = false := by simp; omega
              clear hn
              go_wp2_with (first
                | (go_at_call 5; go_must (refine (HSZ.out _).mono ?_); rintro e w3 ⟨rfl, b3⟩; have HB3 : Hid (Below w.heap.size w w3) := next HB2.out b3; clear b3)
                | (go_at_call 6; refine (num_any _ _).mono ?_; rintro e w' ⟨rfl, hw⟩; obtain rfl := hw.symm))
              go_roundw
              case rel => exact ⟨s + 1, l - Z, m1, m2, rfl, by go_num, rfl, rfl, HN.out, HB3.out⟩
              case measure => simp [intOf]; omega
        · have hl' : decide (0 < l) = false := by simpa using hl
          have hgap := hb.gap
          have HS3 : Hid (3 ≤ S.size) := hS3
          clear hb
          go_wp2_with (first
            | (go_at_call 7; go_must (refine (HNX.out _).mono ?_); rintro e w3 ⟨rfl, b3⟩; have HB3 : Hid (Below w.heap.size w (w3.alloc (.cells #[.string S, .int .i64 T] 28))) := lay (next HB2.out b3) _; have s0 : (w3.alloc (.cells #[.string S, .int .i64 T] 28)).cell? ⟨w3.heap.size, 0, none⟩ = some (.string S) := (Blk.new w3 #[.string S, .int .i64 T] 28).cell 0; clear b3)
            | (go_at_call 6; refine (num_any _ _).mono ?_; rintro e w' ⟨rfl, hw⟩; obtain rfl := hw.symm))
          all_goals go_ret
          all_goals exact ⟨ret_bool (by have := HS3.out; simp; omega), HB3.out⟩

theorem walk (a b e0 : Int) (_ : (Lit.int .i64 a).wf = true) (_ : (Lit.int .i64 b).wf = true) (_ : (Lit.int .i64 e0).wf = true) (w : World) :
    Calls Try.prog 3 #[.int .i64 a, .int .i64 b, .int .i64 e0] w fun e w' => e = .returned (.bool true) ∧ Below w.heap.size w w' := by
  have m1 : bits .and .i64 a 127 = a % 128 := mask a 7 (by decide)
  have m2 : bits .and .i64 b 15 = b % 16 := mask b 4 (by decide)
  have m3 : bits .and .i64 e0 7 = e0 % 8 := mask e0 3 (by decide)
  by_cases h : a % 128 ≤ 125
  · exact long a b e0 (b % 16 + 1) (e0 % 8) (a % 128 + 1).toNat (by omega) (by omega) (by omega) (by omega) m3 (by omega) (by omega) w
  · exact most a b e0 (b % 16 + 1) (e0 % 8) (by omega) (by omega) m3 (by omega) (by omega) w

theorem own : ownKnob Try.prog.godebug = none := by kernel_rfl

set_option maxRecDepth 100000 in
theorem lifted (os : Os) (started : os.Started) (H : Type) (enc : TypeId × Value → H) :
    ReturnsInHanded {} Try.checked os 3 .any (Rows.qminLongSpec.pre6 enc Try.prog Try.f3 Rows.qminLongRow.domain false) (Rows.qminLongSpec.post enc Try.prog Try.f3 false true false false) := by
  refine returnsInHanded_of_change (C := Try.checked) own started (by kernel_rfl) Try.func3
    (ChangeSpec.witness6 (enc := enc) (C := Try.checked) false ⟨#[], #[.int .i64 0, .int .i64 0, .int .i64 0], []⟩ 8 (by kernel_rfl) (by kernel_rfl) (by kernel_rfl) (by kernel_rfl)) ?_
  intro W base args ds gs before hval0 hW _ _
  have hval : ∀ (j : Nat) t v, Try.f3.params[j]? = some t → args[j]? = some v → Value.okWide Try.prog W .any base t v := hval0
  have hW' := hW
  obtain ⟨p, q, hA0, hV, rfl, hfz, hnd⟩ := hW
  have hA : DataW.TrodAll enc Try.prog W 0 (fun _ => true) true Try.f3.params.toList args.toList ds p := hA0
  rw [Try.params3] at hA hval
  obtain ⟨v0, vs0, d0, ds0, p0, q0, hargs, rfl, rfl, h0, r0⟩ := trodAll_cons hA
  obtain ⟨v1, vs1, d1, ds1, p1, q1, rfl, rfl, rfl, h1, r1⟩ := trodAll_cons r0
  obtain ⟨v2, vs2, d2, ds2, p2, q2, rfl, rfl, rfl, h2, r2⟩ := trodAll_cons r1
  obtain ⟨rfl, rfl, rfl⟩ := trodAll_nil r2
  obtain rfl : args = #[v0, v1, v2] := by cases args; simp_all
  obtain ⟨rfl, rfl⟩ := trodVars_none hV
  obtain ⟨a0, rfl, rfl, rfl, w0⟩ := open_int Try.underlying3 (hval 0 3 v0 rfl rfl) h0
  obtain ⟨a1, rfl, rfl, rfl, w1⟩ := open_int Try.underlying3 (hval 1 3 v1 rfl rfl) h1
  obtain ⟨a2, rfl, rfl, rfl, w2⟩ := open_int Try.underlying3 (hval 2 3 v2 rfl rfl) h2
  clear hA0 hval0
  simp only [List.append_nil] at hW'
  refine (walk a0 a1 a2 w0 w1 w2 W ).mono fun e W' ⟨he, bel⟩ => ?_
  subst he
  exact ⟨_, rfl, _, _, _, [], [], [], hW', trodAll_mk1 (shut_bool Try.underlying4 _), (trodAll_cons_mk (shut_int Try.underlying3 w0) (trodAll_cons_mk (shut_int Try.underlying3 w1) (trodAll_cons_mk (shut_int Try.underlying3 w2) trodAll_mk0))), rfl, bel.frame _, fun h => by cases h⟩

/-- The statement. -/
theorem proved : Rows.QminLongSaid :=
  OpenClaim.holds_of_wide 3 Try.f3 rfl rfl rfl rfl rfl rfl rfl ⟨rfl, rfl, rfl, rfl, rfl⟩ rfl rfl rfl rfl rfl (by kernel_rfl) Try.func3 (by kernel_rfl)
    (of_decide_eq_true (by kernel_rfl)) (by unfold Func.isWrapper; first | (rw [if_pos (by decide +kernel)]; kernel_rfl) | (rw [if_neg (by decide +kernel)]; exact ⟨rfl, rfl⟩))
    (fun os started H enc _ => lifted os started H enc)
#print axioms proved


end Go.Proofs.Ytnjlfbcfnmdkkab.qminLong
