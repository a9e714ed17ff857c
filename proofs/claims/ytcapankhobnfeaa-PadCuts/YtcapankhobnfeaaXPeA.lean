/- What the document's Room, padded, with and fits give. -/
import Derived.Test.YtcapankhobnfeaaXP14
import Derived.Test.YtcapankhobnfeaaXOpP
import Derived.Test.YtcapankhobnfeaaXWjH
import Derived.Handy
namespace Go.Proofs.Ytcapankhobnfeaa
open Go.RowKit
open Pl

theorem room_other {s b k m : Int} (hs : 0 ≤ s) (hb : 1 ≤ b) (hk : k = s % b) (hm : m = 4 % b) : (b - m ≤ k → roomI s b = (b - (k - (b - m))) % b) ∧ (¬ b - m ≤ k → roomI s b = (b - (k + m)) % b) := by
  have hk0 := Int.emod_nonneg s (b := b) (by omega)
  have hk1 := Int.emod_lt_of_pos s (b := b) (by omega)
  have hm0 := Int.emod_nonneg 4 (b := b) (by omega)
  have hm1 := Int.emod_lt_of_pos 4 (b := b) (by omega)
  rw [← hk] at hk0 hk1
  rw [← hm] at hm0 hm1
  have e : (s + 4) % b = (k + m) % b := by rw [hk, hm, ← Int.add_emod]
  rw [room_some hs hb, e]
  constructor
  · intro h
    have : (k + m) % b = k - (b - m) := by
      rw [show k + m = (k - (b - m)) + b from by omega, Int.add_emod_right, Int.emod_eq_of_lt (by omega) (by omega)]
    rw [this]
  · intro h
    have : (k + m) % b = k + m := Int.emod_eq_of_lt (by omega) (by omega)
    rw [this]

theorem refRoom_any (s b : Int) (w : World) (hs : s ≤ 9223372036854775807) (hb : b ≤ 9223372036854775807) :
    Calls Try.prog 17 #[.int .i64 s, .int .i64 b] w fun e w' => e = .returned (.int .i64 (roomI s b)) ∧ Below w.heap.size w w' := by
  obtain ⟨R, hR⟩ : ∃ R, R = roomI s b := ⟨_, rfl⟩
  have HR : Hid (R = roomI s b) := hR
  rw [← hR]
  clear hR
  by_cases h1 : s < 0
  · have HE : Hid (R = 0) := by unfold Hid; rw [HR.out, room_none (.inl h1)]
    go_enter Try.func17, Try.ntmps17
    go_wp2
    go_ret
    exact ⟨by rw [HE.out]; rfl, Below.refl _ _⟩
  · by_cases h2 : b < 1
    · have HE : Hid (R = 0) := by unfold Hid; rw [HR.out, room_none (.inr h2)]
      go_enter Try.func17, Try.ntmps17
      go_wp2
      go_ret
      exact ⟨by rw [HE.out]; rfl, Below.refl _ _⟩
    · have e1 : s.tmod b = s % b := Int.tmod_eq_emod_of_nonneg (by omega)
      have e2 : (4 : Int).tmod b = 4 % b := Int.tmod_eq_emod_of_nonneg (by omega)
      obtain ⟨k, hk⟩ : ∃ k, k = s % b := ⟨_, rfl⟩
      obtain ⟨m, hm⟩ : ∃ m, m = 4 % b := ⟨_, rfl⟩
      obtain ⟨g1, g2⟩ := room_other (by omega) (by omega) hk hm
      have hk0 := Int.emod_nonneg s (b := b) (by omega)
      have hk1 := Int.emod_lt_of_pos s (b := b) (by omega)
      have hm0 := Int.emod_nonneg 4 (b := b) (by omega)
      have hm1 := Int.emod_lt_of_pos 4 (b := b) (by omega)
      rw [← hk] at e1 hk0 hk1
      rw [← hm] at e2 hm0 hm1
      have hk' : s % b = k := hk.symm
      have hm' : (4 : Int) % b = m := hm.symm
      clear hk hm
      have hbz : b ≠ 0 := by omega
      by_cases h3 : b - m ≤ k
      · have HE : Hid (R = (b - (k - (b - m))) % b) := by unfold Hid; rw [HR.out]; exact g1 h3
        have e3 : (b - (k - (b - m))).tmod b = (b - (k - (b - m))) % b := Int.tmod_eq_emod_of_nonneg (by omega)
        clear g1 g2 HR
        go_enter Try.func17, Try.ntmps17
        go_wp2
        go_region
        all_goals go_wp2
        all_goals go_ret
        all_goals exact ⟨ret_int (by rw [HE.out]; simp), below_drew ⟨1, rfl⟩⟩
      · have HE : Hid (R = (b - (k + m)) % b) := by unfold Hid; rw [HR.out]; exact g2 h3
        have e3 : (b - (k + m)).tmod b = (b - (k + m)) % b := Int.tmod_eq_emod_of_nonneg (by omega)
        clear g1 g2 HR
        go_enter Try.func17, Try.ntmps17
        go_wp2
        go_region
        all_goals go_wp2
        all_goals go_ret
        all_goals exact ⟨ret_int (by rw [HE.out]; simp), below_drew ⟨1, rfl⟩⟩

end Go.Proofs.Ytcapankhobnfeaa
