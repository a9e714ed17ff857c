/- What order gives: the order of two strings, folded, by their bytes. -/
import Derived.Test.YtnjlfbcfnmdkkaaWalkD
import Derived.WalkSpells
namespace Go.Proofs.Ytnjlfbcfnmdkkaa
open Go.RowKit
open Pl

theorem drew_more {w u : World} {n : Nat} (h : ∃ m, u = w.drewN m) : ∃ m, u.drewN n = w.drewN m := by
  obtain ⟨m, rfl⟩ := h
  exact ⟨m + n, by simp⟩

theorem ord_start (a b : List UInt8) : ord a b = lexG cB ((foldL a).drop 0) ((foldL b).drop 0) := rfl
theorem ord_next {a b : List UInt8} {k : Nat} (h : ord a b = lexG cB ((foldL a).drop k) ((foldL b).drop k)) (ha : k < a.length) (hb : k < b.length) (hz : sgn ((fb a[k]).toNat : Int) ((fb b[k]).toNat : Int) = 0) :
    ord a b = lexG cB ((foldL a).drop (k + 1)) ((foldL b).drop (k + 1)) := by
  rw [h, lexG_drop cB_ord _ _ k (by rw [fold_len]; exact ha) (by rw [fold_len]; exact hb)]
  rw [if_pos (by simpa [foldL, cB] using hz)]
theorem ord_here {a b : List UInt8} {k : Nat} (h : ord a b = lexG cB ((foldL a).drop k) ((foldL b).drop k)) (ha : k < a.length) (hb : k < b.length) (hz : sgn ((fb a[k]).toNat : Int) ((fb b[k]).toNat : Int) ≠ 0) :
    sgn ((fb a[k]).toNat : Int) ((fb b[k]).toNat : Int) = ord a b := by
  rw [h, lexG_drop cB_ord _ _ k (by rw [fold_len]; exact ha) (by rw [fold_len]; exact hb)]
  rw [if_neg (by simpa [foldL, cB] using hz)]
  simp [foldL, cB]
theorem ord_end {a b : List UInt8} {k : Nat} (h : ord a b = lexG cB ((foldL a).drop k) ((foldL b).drop k)) (hk : k = a.length ∨ k = b.length) (ha : k ≤ a.length) (hb : k ≤ b.length) :
    sgn (a.length : Int) (b.length : Int) = ord a b := by
  rw [h, lexG_end _ _ k (by rw [fold_len, fold_len]; exact hk) (by rw [fold_len]; exact ha) (by rw [fold_len]; exact hb), fold_len, fold_len]

set_option maxRecDepth 20000 in
set_option maxHeartbeats 1000000 in
theorem order_any (a b : ByteArray) (w : World) (_ha : a.size ≤ maxLen) (hb : b.size ≤ maxLen) :
    Calls Try.prog 30 #[.string a, .string b] w fun e w' => e = .returned (.int .i64 (ord a.data.toList b.data.toList)) ∧ ∃ m, w' = w.drewN m := by
  unfold maxLen at _ha hb
  have hal := data_len a
  have hbl := data_len b
  obtain ⟨M, hM⟩ : ∃ M : Nat, (if b.size < a.size then (b.size : Int) else (a.size : Int)) = (M : Int) := by
    by_cases h : b.size < a.size
    · exact ⟨b.size, by rw [if_pos h]⟩
    · exact ⟨a.size, by rw [if_neg h]⟩
  have HM : Hid ((M = a.size ∨ M = b.size) ∧ M ≤ a.size ∧ M ≤ b.size) := by
    unfold Hid
    split at hM <;> omega
  have hMa : M ≤ a.size := HM.out.2.1
  go_enter Try.func30, Try.ntmps30
  go_wp2
  go_loopw [12] (fun i wr => ∃ (k : Nat), k ≤ M ∧ i = .int .i64 k ∧ Hid (∃ m, wr = w.drewN m) ∧ Hid (ord a.data.toList b.data.toList = lexG cB ((foldL a.data.toList).drop k) ((foldL b.data.toList).drop k))) (fun i _ => M - (intOf i).toNat)
  case atStart => exact ⟨0, Nat.zero_le _, rfl, ⟨0, rfl⟩, ord_start _ _⟩
  case round =>
    obtain ⟨k, hk, rfl, hdr, ho⟩ := hrel
    by_cases hkM : k < M
    · have hka : k < a.size := by have := HM.out; omega
      have hkb : k < b.size := by have := HM.out; omega
      have hka' : k < a.data.toList.length := by omega
      have hkb' : k < b.data.toList.length := by omega
      have hia := idx a k k rfl hka
      have hib := idx b k k rfl hkb
      have hkM2 : (k : Int) < (M : Int) := by omega
      by_cases hz : sgn ((fb a[k]).toNat : Int) ((fb b[k]).toNat : Int) = 0
      · have HN := ord_next ho.out hka' hkb' hz
        have HN2 : Hid (ord a.data.toList b.data.toList = lexG cB ((foldL a.data.toList).drop (k + 1)) ((foldL b.data.toList).drop (k + 1))) := HN
        clear HN
        go_wp2
        go_quiet (first
          | (go_at_call 36; go_must (exact Calls.quiet_of_same (foldByte_any _ _)))
          | (go_at_call 35; exact Calls.quiet_of_same (cmpB_any _ _ _)))
        go_wp2
        go_roundw
        case rel => exact ⟨k + 1, by omega, by go_num, drew_more hdr.out, HN2⟩
        case measure => simp [intOf]; omega
      · have HN := ord_here ho.out hka' hkb' hz
        have HN2 : Hid (sgn ((fb a[k]).toNat : Int) ((fb b[k]).toNat : Int) = ord a.data.toList b.data.toList) := HN
        have hz2 : (sgn ((fb a[k]).toNat : Int) ((fb b[k]).toNat : Int) != 0) = true := by simpa using hz
        clear HN hz
        go_wp2
        go_quiet (first
          | (go_at_call 36; go_must (exact Calls.quiet_of_same (foldByte_any _ _)))
          | (go_at_call 35; exact Calls.quiet_of_same (cmpB_any _ _ _)))
        go_wp2
        go_ret
        exact ⟨ret_int HN2.out, drew_more hdr.out⟩
    · have HE := ord_end ho.out (by have := HM.out; omega) (by have := HM.out; omega) (by have := HM.out; omega)
      rw [hal, hbl] at HE
      have HE2 : Hid (sgn (a.size : Int) (b.size : Int) = ord a.data.toList b.data.toList) := HE
      clear HE
      go_wp2_with (go_at_call 37; refine (cmpI_any _ _ _).mono ?_; rintro e w' ⟨rfl, hw⟩; obtain rfl := hw.symm)
      go_ret
      exact ⟨ret_int HE2.out, hdr.out⟩

end Go.Proofs.Ytnjlfbcfnmdkkaa
