/- What the document's Txt gives, and what lends a row of strings and looks whether it was kept. -/
import Derived.Test.YtoeaogbeifkliaaRdM
namespace Go.Proofs.Ytoeaogbeifkliaa
open Go.RowKit
open Pl

theorem lit1 (n : Nat) (b : UInt8) (hb : (n : Int) = (b.toNat : Int)) (u : World) : (convert 52 9 (.slice (some ⟨u.heap.size, 0, none⟩) 1 1)).run Try.prog (u.alloc (.cells #[.int .u8 (n : Int)] 5)) = .ok (.string ⟨#[b]⟩) (u.alloc (.cells #[.int .u8 (n : Int)] 5)) := by
  have := conv_lit [b] u
  simp only [List.map_cons, List.map_nil, bv, ← hb] at this
  exact this
theorem lit1d (n : Nat) (b : UInt8) (hb : (n : Int) = (b.toNat : Int)) (u : World) : (convert 52 9 (.slice (some ⟨u.heap.size, 0, none⟩) 1 1)).run Try.prog (u.alloc (.cells #[.int .u8 (n : Int)] 5)).drew = .ok (.string ⟨#[b]⟩) (u.alloc (.cells #[.int .u8 (n : Int)] 5)).drew := by
  refine run_convert_bytes_back _ 52 9 5 ⟨u.heap.size, 0, none⟩ 1 [b] Try.underlying52 Try.underlying5 Try.underlying9 fun j hj => ?_
  obtain rfl : j = 0 := by simp at hj; omega
  rw [add_off, World.cell?_drew, World.cell?_alloc_mark]
  simp [hb]

theorem refTxt_nil (w : World) : Calls Try.prog 25 #[.slice none 0 0] w fun e w' => e = .returned (.tuple #[.string ⟨#[]⟩, .int .i64 400]) ∧ Below w.heap.size w w' := by
  go_enter Try.func25, Try.ntmps25
  go_wp2
  go_loopw [4, 5] (fun s i wr => s = .string ⟨#[]⟩ ∧ i = .int .i64 0 ∧ wr = w) (fun _ _ _ => 0)
  case atStart => exact ⟨rfl, rfl, rfl⟩
  case round =>
    obtain ⟨rfl, rfl, hw⟩ := hrel; obtain rfl := hw.symm
    go_wp2
    go_ret2
    exact ⟨rfl, Below.refl _ _⟩

set_option maxRecDepth 20000 in
set_option maxHeartbeats 2000000 in
theorem refTxt_some (a : Addr) (N cap : Nat) (ps : List ByteArray) (w : World) (hN : N = ps.length) (hm : N ≤ maxLen) (hz : ∀ k, k < N → (ps.getD k ⟨#[]⟩).size ≤ maxLen) (hc : ∀ k, k < N → w.cell? (a.add k) = some (.string (ps.getD k ⟨#[]⟩))) :
    Calls Try.prog 25 #[.slice (some a) N cap] w fun e w' => e = .returned (optT (txtB ps)) ∧ Below w.heap.size w w' := by
  have HC : Hid (∀ k, k < N → ∀ u, Below w.heap.size w u → u.cell? (a.add k) = some (.string (ps.getD k ⟨#[]⟩))) := fun k hk u hu => by
    have h1 := hc k hk
    rw [hu.cell (World.block_lt_of_cell? _ _ h1), h1]
  have HZ : Hid (∀ k, k < N → (ps.getD k ⟨#[]⟩).size ≤ maxLen) := hz
  have HN : Hid (N = ps.length) := hN
  unfold maxLen at hm
  clear hN hz hc
  have hb : Below w.heap.size w w := Below.refl _ _
  go_enter Try.func25, Try.ntmps25
  go_wp2
  go_loopw [4, 5] (fun s i wr => ∃ (k : Nat) (S : ByteArray), k ≤ N ∧ S.size ≤ 65791 ∧ s = .string S ∧ i = .int .i64 (k : Int) ∧ Hid (S.data.toList = txE (ps.take k)) ∧ Hid (∀ j, j < k → (ps.getD j ⟨#[]⟩).size ≤ 255) ∧ Below w.heap.size w wr) (fun _ i _ => N - (intOf i).toNat)
  case atStart => exact ⟨0, ⟨#[]⟩, Nat.zero_le _, by decide, rfl, rfl, rfl, fun j hj => by omega, hb⟩
  case round =>
    clear hb
    obtain ⟨k, S, hk, hS, rfl, rfl, HS, HA, hb⟩ := hrel
    by_cases hkN : k < N
    · have hcell := HC.out k hkN wr hb
      obtain ⟨p, hp⟩ : ∃ p, p = ps.getD k ⟨#[]⟩ := ⟨_, rfl⟩
      rw [← hp] at hcell
      have HP : Hid (p = ps.getD k ⟨#[]⟩) := hp
      have hpm : p.size ≤ maxLen := by rw [hp]; exact HZ.out k hkN
      unfold maxLen at hpm
      clear hp
      by_cases h255 : p.size ≤ 255
      · have h255' : decide ((255 : Int) < (p.size : Int)) = false := by simp; omega
        by_cases htot : S.size ≤ 65535
        · have htot' : decide ((65535 : Int) < (S.size : Int)) = false := by simp; omega
          have HU : Hid ((p.size : Int) = ((UInt8.ofNat p.size).toNat : Int)) := by unfold Hid; rw [UInt8.toNat_ofNat']; omega
          have hlit := lit1 p.size (UInt8.ofNat p.size) HU.out
          have hlit2 := lit1d p.size (UInt8.ofNat p.size) HU.out
          have hw8 : IntKind.u8.wrap (p.size : Int) = (p.size : Int) := by simp [IntKind.wrap, IntKind.bits, IntKind.signed]; omega
          obtain ⟨B, hB1⟩ : ∃ B : ByteArray, B = ⟨#[UInt8.ofNat p.size]⟩ := ⟨_, rfl⟩
          have hBs : B.size = 1 := by rw [hB1]; rfl
          have HS2 : Hid ((S ++ B ++ p).data.toList = txE (ps.take (k + 1))) := by
            unfold Hid
            rw [txE_take (by rw [← HN.out]; exact hkN), ← HP.out, app_list, app_list, HS.out, List.append_assoc, hB1]; rfl
          have HS3 : Hid ((S ++ B ++ p).size ≤ 65791) := by unfold Hid; rw [ByteArray.size_append, ByteArray.size_append]; omega
          rw [← hB1] at hlit hlit2
          have hz1' : S.size + B.size ≤ 100000 := by omega
          have hz2' : (S ++ B).size + p.size ≤ 100000 := by rw [ByteArray.size_append]; omega
          have HA2 : Hid (∀ j, j < k + 1 → (ps.getD j ⟨#[]⟩).size ≤ 255) := fun j hj => by
            by_cases e : j = k
            · subst e; rw [← HP.out]; exact h255
            · exact HA.out j (by omega)
          have hcell2 : (wr.alloc (.cells #[.int .u8 (p.size : Int)] 5)).cell? (a.add k) = some (.string p) := (HC.out k hkN _ (lay hb _)).trans (by rw [HP.out])
          clear hB1
          go_wp2
          go_region
          all_goals
            have HB : Hid (Below w.heap.size w (wr.alloc (.cells #[.int .u8 (p.size : Int)] 5)).drew) := next (lay hb _) (below_drew ⟨1, rfl⟩)
            clear hcell2
            go_wp2
            go_roundw
            case rel => exact ⟨k + 1, S ++ B ++ p, by omega, HS3.out, rfl, by go_num, HS2, HA2, HB.out⟩
            case measure => simp [intOf]; omega
        · have htot' : (65535 : Int) < (S.size : Int) := by omega
          have HR : Hid (txtB ps = none) := txt_long (k := k) (by rw [← HS.out, data_len]; omega)
          go_wp2
          go_ret2
          exact ⟨ret_opt HR.out rfl, hb⟩
      · have h255' : (255 : Int) < (p.size : Int) := by omega
        have HR : Hid (txtB ps = none) := txt_part (k := k) (by rw [← HN.out]; exact hkN) (by rw [← HP.out]; omega)
        go_wp2
        go_ret2
        exact ⟨ret_opt HR.out rfl, hb⟩
    · have hall : ps.take k = ps := List.take_of_length_le (by rw [← HN.out]; omega)
      have HS2 : Hid (S.data.toList = txE ps) := by unfold Hid; rw [HS.out, hall]
      have hex : decide (k < N) = false := by simp; omega
      by_cases hN0 : N = 0
      · have HR : Hid (txtB ps = none) := txt_none (by rw [← HN.out]; exact hN0)
        have hN0' : ((N : Int) == 0) = true := by simpa using hN0
        clear hN0 hkN hall hk
        go_wp2
        go_ret2
        exact ⟨ret_opt HR.out rfl, hb⟩
      · have hN0' : ((N : Int) == 0) = false := by simpa using hN0
        by_cases htot : S.size ≤ 65535
        · have htot' : decide ((65535 : Int) < (S.size : Int)) = false := by simp; omega
          have HR : Hid (txtB ps = some S) := by
            unfold Hid
            rw [txt_yes (fun j hj => HA.out j (by rw [← HN.out] at hj; omega)) (by rw [← HN.out]; omega) (by rw [← HS2.out, data_len]; exact htot)]
            congr 1
            apply ByteArray.ext; apply Array.toList_inj.1
            rw [HS2.out]
          clear hN0 hkN hall hk
          go_wp2
          go_ret2
          exact ⟨ret_opt HR.out rfl, hb⟩
        · have htot' : (65535 : Int) < (S.size : Int) := by omega
          have HR : Hid (txtB ps = none) := txt_long (k := k) (by rw [← HS.out, data_len]; omega)
          clear hN0 hkN hall hk
          go_wp2
          go_ret2
          exact ⟨ret_opt HR.out rfl, hb⟩

theorem refTxt_any (v : Value) (ps : List ByteArray) (w : World) (h : SRow w v ps) :
    Calls Try.prog 25 #[v] w fun e w' => e = .returned (optT (txtB ps)) ∧ Below w.heap.size w w' := by
  obtain ⟨⟨rfl, rfl⟩ | ⟨a, cap, rfl, hc⟩, hm, hz⟩ := h
  · exact refTxt_nil w
  · exact refTxt_some a _ cap ps w rfl hm hz hc

end Go.Proofs.Ytoeaogbeifkliaa
