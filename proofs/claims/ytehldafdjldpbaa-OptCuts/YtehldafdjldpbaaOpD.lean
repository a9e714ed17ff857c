/- What getOptions of package opt gives. -/
import Derived.Test.YtehldafdjldpbaaOpC
namespace Go.Proofs.Ytehldafdjldpbaa
open Go.RowKit

theorem cut_mid (s : ByteArray) (i j : Nat) (c d : Int) (hc : c = (i : Int)) (hd : d = (j : Int)) (h : i ≤ j) (h2 : j ≤ s.size) (u : World) : (Instr.slice 9 (.string s) (some (.int .i64 c)) (some (.int .i64 d)) none).run Try.prog u = .ok (.string (s.extract i j)) u := by
  subst hc hd
  have := run_slice_string (P := Try.prog) u 9 s .i64 .i64 (i : Int) (j : Int) Try.underlying9 (by omega) (by omega) (by omega)
  rw [this]; rfl
theorem drop4 (s : ByteArray) (k : Nat) (h : k + 4 ≤ s.size) : s.data.toList.drop k = s[k] :: s[k + 1] :: s[k + 2] :: s[k + 3] :: s.data.toList.drop (k + 4) := by
  have hl := data_len s
  rw [List.drop_eq_getElem_cons (by omega), List.drop_eq_getElem_cons (by omega), List.drop_eq_getElem_cons (by omega), List.drop_eq_getElem_cons (by omega)]
  rfl
theorem ext_arr (s : ByteArray) (i n : Nat) : s.extract i (i + n) = ⟨((s.data.toList.drop i).take n).toArray⟩ := by
  apply ByteArray.ext
  apply Array.toList_inj.1
  rw [ext_list]
  simp
theorem four_parts (a b c d : UInt8) : four a b c d / 65536 % 65536 = two a b ∧ four a b c d / 1 % 65536 = two c d ∧ 0 ≤ four a b c d ∧ four a b c d < 4294967296 := by
  have := two_lt a b
  have := two_lt c d
  unfold four
  omega

/-- What getOptions gives. -/
def GO (w : World) (s : ByteArray) (e : Ending) (w' : World) : Prop :=
  ∃ (y : Option Addr) (n cap : Nat) (ok : Bool), e = .returned (.tuple #[.slice y n cap, .bool ok]) ∧ Below w.heap.size w w' ∧
    ((ok = true ∧ ∃ os, rdL s.data.toList = some os ∧ w'.ownsRow w.heap.size 52 2 (.slice y n cap) os.length (oC os)) ∨ (ok = false ∧ rdL s.data.toList = none))

set_option maxRecDepth 20000 in
set_option maxHeartbeats 1000000 in
theorem getOptions_any (s : ByteArray) (w : World) (hs : s.size ≤ 65535) : Calls Try.prog 29 #[.string s] w (GO w s) := by
  obtain ⟨i0, hi, hz0, hz1, hz2⟩ := info_parts infoO
  have hb : Below w.heap.size w w := Below.refl _ _
  go_enter Try.func29, Try.ntmps29
  go_wp2
  go_loopw [4, 5] (fun ov i wr => ∃ (k n cap : Nat) (y : Option Addr) (acc : List On), k ≤ s.size ∧ n ≤ k ∧ ov = .slice y n cap ∧ i = .int .i64 (k : Int) ∧ wr.ownsRow w.heap.size 52 2 (.slice y n cap) n (oC acc) ∧ Hid (n = acc.length) ∧ Hid (rdL s.data.toList = (rdL (s.data.toList.drop k)).map (acc ++ ·)) ∧ Below w.heap.size w wr) (fun _ i _ => s.size - (intOf i).toNat)
  case atStart => exact ⟨0, 0, 0, none, [], Nat.zero_le _, Nat.zero_le _, rfl, rfl, World.ownsRow_nil _ _ _ _, rfl, by unfold Hid; simp, hb⟩
  case round =>
    clear hb
    obtain ⟨k, n, cap, y, acc, hk, hnk, rfl, rfl, hown, HL, HA, hb⟩ := hrel
    have hB : w.heap.size ≤ wr.heap.size := hb.size
    by_cases hks : k < s.size
    · have hks' : (k : Int) < (s.size : Int) := by omega
      by_cases h4 : k + 4 ≤ s.size
      · have hu := fun u => u32_yes s k u (by unfold maxLen; omega) h4
        obtain ⟨p1, p2, p3⟩ := four_parts s[k] s[k + 1] s[k + 2] s[k + 3]
        have HD : Hid (rdL (s.data.toList.drop k) = if (two s[k + 2] s[k + 3]).toNat ≤ (s.data.toList.drop (k + 4)).length then (rdL ((s.data.toList.drop (k + 4)).drop (two s[k + 2] s[k + 3]).toNat)).map (fun os => ⟨two s[k] s[k + 1], ⟨((s.data.toList.drop (k + 4)).take (two s[k + 2] s[k + 3]).toNat).toArray⟩⟩ :: os) else none) := by
          unfold Hid; rw [drop4 s k h4, rdL_cons]
        have hc := two_lt s[k] s[k + 1]
        have hz := two_lt s[k + 2] s[k + 3]
        obtain ⟨F, hF⟩ : ∃ F, F = four s[k] s[k + 1] s[k + 2] s[k + 3] := ⟨_, rfl⟩
        obtain ⟨C, hC⟩ : ∃ C, C = two s[k] s[k + 1] := ⟨_, rfl⟩
        obtain ⟨Z, hZ⟩ : ∃ Z : Nat, two s[k + 2] s[k + 3] = (Z : Int) := ⟨(two s[k + 2] s[k + 3]).toNat, by omega⟩
        simp only [← hF, ← hC, hZ] at hu p1 p2 p3 HD hc hz
        have f1 := fun u => field_as F C 16 16 u p3 (.inr (.inr (.inr (.inr (.inl ⟨rfl, rfl, p1⟩)))))
        have f2 := fun u => field_as F (Z : Int) 0 16 u p3 (.inr (.inr (.inr (.inr (.inr ⟨rfl, rfl, p2⟩)))))
        have wF : IntKind.u32.wrap F = F := by rw [IntKind.wrap_u32]; omega
        have hdl : (s.data.toList.drop (k + 4)).length = s.size - (k + 4) := by rw [List.length_drop, data_len]
        rw [hdl, Int.toNat_natCast] at HD
        clear hF hC hZ p1 p2 hdl
        by_cases hfit : Z ≤ s.size - (k + 4)
        · have hfit' : decide ((s.size : Int) - ((k : Int) + 4) < (Z : Int)) = false := by simp; omega
          have hcut := cut_mid s (k + 4) (k + 4 + Z) ((k : Int) + 4) ((k : Int) + 4 + (Z : Int)) (by omega) (by omega) (by omega) (by omega)
          have HD2 : Hid (rdL s.data.toList = (rdL (s.data.toList.drop (k + 4 + Z))).map ((acc ++ [⟨C, s.extract (k + 4) (k + 4 + Z)⟩]) ++ ·)) := by
            unfold Hid
            rw [HA.out, HD.out, if_pos hfit, List.drop_drop, Option.map_map, ext_arr]
            congr 1
            funext os
            simp
          have hsz : (s.extract (k + 4) (k + 4 + Z)).size ≤ 1000000 := by simp; omega
          obtain ⟨X, hX⟩ : ∃ X, X = s.extract (k + 4) (k + 4 + Z) := ⟨_, rfl⟩
          rw [← hX] at HD2 hsz hcut
          have kc := fun u => clone_any X u hsz
          have hn1 : k + 4 + Z ≤ s.size := by omega
          clear hX HD HA hfit hsz
          have t1 : True := trivial
          go_wp2_with (first
            | (go_at_call 36; go_must (refine (hu _).mono ?_); rintro e w1 ⟨rfl, b1⟩; replace hown := own_past hown (below_drew b1); replace hb := next hb (below_drew b1); clear b1)
            | (go_at_call 37; have _t := t1; go_must (refine (f1 _).mono ?_); rintro e w' ⟨rfl, hw⟩; obtain rfl := hw.symm; clear t1 _t)
            | (go_at_call 37; go_must (refine (f2 _).mono ?_); rintro e w' ⟨rfl, hw⟩; obtain rfl := hw.symm)
            | (go_at_call 38; go_must (refine (kc _).mono ?_); rintro e w2 ⟨rfl, b2⟩; replace hown := own_past hown b2; replace hb := next hb b2; clear b2)
            | (at_builtin; refine wpList_appG _ rfl (.tmp 39) (.tmp 47) 22 52 i0 _ 2 24 Try.underlying22 hi hz0 hz1 hz2 rfl (by decide) rfl w.heap.size _ n (oC acc) rfl (hown.alloc _) (.slice (some ⟨w2.heap.size, 0, none⟩) 1 1) 1 (oV ⟨C, X⟩) rfl (Row.of_blk (Blk.new w2 (oV ⟨C, X⟩).toArray 52) rfl 1 1) rfl (fun u hu => oC_one [⟨C, X⟩] u (by simpa [oC] using hu)) (by omega) (by unfold maxLen; omega) (lay hb _).size ?_; intro v5 w5 own5 grow5 _; obtain ⟨y5, k5, rfl⟩ := row_shape own5; replace hb := (lay hb _).grown grow5 (lay hb _).size (fun k e => (hown.lt k e).1); have OWN5 : Hid (w5.ownsRow w.heap.size 52 2 (.slice y5 (n + 1) k5) (n + 1) (oC (acc ++ [⟨C, X⟩]))) := (by unfold Hid; rw [oC_app]; simpa [oC] using own5); clear own5 grow5 hown))
          go_roundw
          case rel => exact ⟨k + 4 + Z, n + 1, k5, y5, acc ++ [⟨C, X⟩], hn1, by omega, rfl, by go_num, OWN5.out, by unfold Hid; rw [List.length_append, ← HL.out]; rfl, HD2, hb⟩
          case measure => simp [intOf]; omega
        · have hfit' : (s.size : Int) - ((k : Int) + 4) < (Z : Int) := by omega
          have HF : Hid (rdL s.data.toList = none) := by unfold Hid; rw [HA.out, HD.out, if_neg hfit]; rfl
          clear HD HA hfit
          have t1 : True := trivial
          go_wp2_with (first
            | (go_at_call 36; go_must (refine (hu _).mono ?_); rintro e w1 ⟨rfl, b1⟩; replace hb := next hb (below_drew b1); clear b1)
            | (go_at_call 37; have _t := t1; go_must (refine (f1 _).mono ?_); rintro e w' ⟨rfl, hw⟩; obtain rfl := hw.symm; clear t1 _t)
            | (go_at_call 37; go_must (refine (f2 _).mono ?_); rintro e w' ⟨rfl, hw⟩; obtain rfl := hw.symm))
          go_ret2
          exact ⟨_, _, _, _, rfl, hb, .inr ⟨rfl, HF.out⟩⟩
      · have hu := fun u => u32_no s (k : Int) u (by unfold maxLen; omega) (.inr (by omega))
        have HF : Hid (rdL s.data.toList = none) := by
          unfold Hid
          rw [HA.out, rdL_short (fun e => by have := congrArg List.length e; rw [List.length_drop, data_len] at this; simp at this; omega) (by rw [List.length_drop, data_len]; omega)]
          rfl
        go_wp2_with (go_at_call 36; go_must (refine (hu _).mono ?_); rintro e w' ⟨rfl, hw⟩; obtain rfl := hw.symm)
        go_ret2
        exact ⟨_, _, _, _, rfl, hb, .inr ⟨rfl, HF.out⟩⟩
    · have hks' : decide (k < s.size) = false := by simpa using hks
      have HF : Hid (rdL s.data.toList = some acc) := by
        unfold Hid
        rw [HA.out, List.drop_of_length_le (by rw [data_len]; omega), rdL_nil]
        simp
      rw [HL.out] at hown
      have HO : Hid (wr.ownsRow w.heap.size 52 2 (.slice y n cap) acc.length (oC acc)) := by unfold Hid; rw [HL.out]; exact hown
      clear hown
      go_wp2
      go_ret2
      exact ⟨_, _, _, _, rfl, hb, .inl ⟨rfl, acc, HF.out, HO.out⟩⟩

end Go.Proofs.Ytehldafdjldpbaa
