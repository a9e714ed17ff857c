/- What readByte gives, for every text that is not empty. -/
import Derived.Test.YtkfpboippchdbaaWalkB
import Derived.LoopN
namespace Go.Proofs.Ytkfpboippchdbaa
open Go.RowKit
open Pl

theorem ret_four {a : Int} {b : UInt8} (h : a = (b.toNat : Int)) : Ending.returned (.tuple #[.int .u8 a, .int .i64 4]) = .returned (.tuple #[.int .u8 (b.toNat : Int), .int .i64 ((4 : Nat) : Int)]) := by rw [h]; rfl

set_option maxHeartbeats 1000000 in
theorem readByte_any (s : ByteArray) (w : World) (h0 : 0 < s.size) (h1 : s.size ≤ 1000000) :
    Calls Try.prog 23 #[.string s] w fun e w' => e = .returned (rbV s.data.toList) ∧ Below w.heap.size w w' := by
  have hb := (s[0]).toNat_lt
  have hsl : s.data.toList.length = s.size := by rw [Array.length_toList]; rfl
  cases hst : standsB (s[0]).toNat with
  | true =>
    obtain ⟨r, hr⟩ := list_one s h0
    rw [hr]; clear hr
    go_enter Try.func23, Try.ntmps23
    go_wp2_with (first | (go_at_call 25; refine (stands_any _ _ (by omega) (by omega)).mono ?_; rintro e w' ⟨rfl, hw⟩; obtain rfl := hw.symm))
    go_ret2
    exact ⟨rbV_some (rb_stands hst), Below.refl _ _⟩
  | false =>
    by_cases h92 : ((s[0].toNat : Int) != 92) = true
    · obtain ⟨r, hr⟩ := list_one s h0
      rw [hr]; clear hr
      go_enter Try.func23, Try.ntmps23
      go_wp2_with (first | (go_at_call 25; refine (stands_any _ _ (by omega) (by omega)).mono ?_; rintro e w' ⟨rfl, hw⟩; obtain rfl := hw.symm))
      go_ret2
      exact ⟨rbV_none (rb_other hst (by simp at h92; omega)), Below.refl _ _⟩
    · by_cases h4 : s.size < 4
      · obtain ⟨r, hr⟩ := list_one s h0
        have hrl : r.length < 3 := by rw [hr] at hsl; simp at hsl; omega
        rw [hr]; clear hr hsl
        go_enter Try.func23, Try.ntmps23
        go_wp2_with (first | (go_at_call 25; refine (stands_any _ _ (by omega) (by omega)).mono ?_; rintro e w' ⟨rfl, hw⟩; obtain rfl := hw.symm))
        go_ret2
        exact ⟨rbV_none (rb_short hst hrl), Below.refl _ _⟩
      · obtain ⟨x, y, z, r, hr, h3⟩ := list_four s (by omega)
        have H3 : Hid ((s.extract 1 4).data.toList = [x, y, z]) := h3
        have HR : Hid (rb s.data.toList = if tells x y z then some (UInt8.ofNat (val3 x y z), 4) else none) := by
          unfold Hid; rw [hr]; exact rb_tells hst (by simp at h92; omega)
        clear hr h3 hsl
        have bx := x.toNat_lt
        have by' := y.toNat_lt
        have bz := z.toNat_lt
        by_cases dx : 48 ≤ x.toNat ∧ x.toNat ≤ 57
        · obtain ⟨dx1, dx2⟩ := dx
          by_cases dy : 48 ≤ y.toNat ∧ y.toNat ≤ 57
          · obtain ⟨dy1, dy2⟩ := dy
            by_cases dz : 48 ≤ z.toNat ∧ z.toNat ≤ 57
            · obtain ⟨dz1, dz2⟩ := dz
              have hv : (val3 x y z : Int) = (((x.toNat : Int) - 48) * 10 + ((y.toNat : Int) - 48)) * 10 + ((z.toNat : Int) - 48) := by unfold val3; omega
              by_cases hgt : 255 < (((x.toNat : Int) - 48) * 10 + ((y.toNat : Int) - 48)) * 10 + ((z.toNat : Int) - 48)
              · have HN : Hid (rb s.data.toList = none) := by
                  unfold Hid; rw [HR.out, if_neg (by simp [tells]; omega)]
                clear hv
                go_enter Try.func23, Try.ntmps23
                go_wp2_with (first | (go_at_call 25; refine (stands_any _ _ (by omega) (by omega)).mono ?_; rintro e w' ⟨rfl, hw⟩; obtain rfl := hw.symm) | (refine wpList_bytes _ rfl (.tmp 21) rfl _ rfl [x, y, z] H3.out 3 rfl ?_; intro cap w1 hc hg hz; have c0 := hc 0 (by simp); have c1 := hc 1 (by simp); have c2 := hc 2 (by simp); simp at c0 c1 c2; clear hc))
                refine wp_loop_rounds 4 ?_
                rw [rounds_succ]
                go_wp2
                rw [rounds_succ]
                go_wp2
                rw [rounds_succ]
                go_wp2
                rw [rounds_succ]
                go_wp2
                go_ret2
                exact ⟨rbV_none HN.out, below_of hg⟩
              · cases hs3 : standsB (val3 x y z) with
                | true =>
                  have HN : Hid (rb s.data.toList = none) := by
                    unfold Hid; rw [HR.out, if_neg (by simp [tells, hs3])]
                  have hsv : ∀ c : Int, c = (((x.toNat : Int) - 48) * 10 + ((y.toNat : Int) - 48)) * 10 + ((z.toNat : Int) - 48) → standsB c = true := fun c hc => by rw [hc, ← hv]; exact hs3
                  have HSV : Hid (∀ c : Int, c = (((x.toNat : Int) - 48) * 10 + ((y.toNat : Int) - 48)) * 10 + ((z.toNat : Int) - 48) → standsB c = true) := hsv
                  clear hv hs3 hsv
                  go_enter Try.func23, Try.ntmps23
                  go_wp2_with (first | (go_at_call 25; refine (stands_any _ _ (by omega) (by omega)).mono ?_; rintro e w' ⟨rfl, hw⟩; obtain rfl := hw.symm) | (refine wpList_bytes _ rfl (.tmp 21) rfl _ rfl [x, y, z] H3.out 3 rfl ?_; intro cap w1 hc hg hz; have c0 := hc 0 (by simp); have c1 := hc 1 (by simp); have c2 := hc 2 (by simp); simp at c0 c1 c2; clear hc))
                  refine wp_loop_rounds 4 ?_
                  rw [rounds_succ]
                  go_wp2
                  rw [rounds_succ]
                  go_wp2
                  rw [rounds_succ]
                  go_wp2
                  rw [rounds_succ]
                  go_wp2_with (go_at_call 25; refine (stands_as _ true _ (by omega) (by omega) (HSV.out _ (by omega))).mono ?_; rintro e w' ⟨rfl, hw⟩; obtain rfl := hw.symm)
                  go_ret2
                  exact ⟨rbV_none HN.out, below_of hg⟩
                | false =>
                  have HN : Hid (rb s.data.toList = some (UInt8.ofNat (val3 x y z), 4)) := by
                    unfold Hid; rw [HR.out, if_pos (by simp [tells, hs3, dig]; omega)]
                  have hsv : ∀ c : Int, c = (((x.toNat : Int) - 48) * 10 + ((y.toNat : Int) - 48)) * 10 + ((z.toNat : Int) - 48) → standsB c = false := fun c hc => by rw [hc, ← hv]; exact hs3
                  have HSV : Hid (∀ c : Int, c = (((x.toNat : Int) - 48) * 10 + ((y.toNat : Int) - 48)) * 10 + ((z.toNat : Int) - 48) → standsB c = false) := hsv
                  have HV : Hid ((val3 x y z : Int) = (((x.toNat : Int) - 48) * 10 + ((y.toNat : Int) - 48)) * 10 + ((z.toNat : Int) - 48)) := hv
                  clear hv hs3 hsv
                  go_enter Try.func23, Try.ntmps23
                  go_wp2_with (first | (go_at_call 25; refine (stands_any _ _ (by omega) (by omega)).mono ?_; rintro e w' ⟨rfl, hw⟩; obtain rfl := hw.symm) | (refine wpList_bytes _ rfl (.tmp 21) rfl _ rfl [x, y, z] H3.out 3 rfl ?_; intro cap w1 hc hg hz; have c0 := hc 0 (by simp); have c1 := hc 1 (by simp); have c2 := hc 2 (by simp); simp at c0 c1 c2; clear hc))
                  refine wp_loop_rounds 4 ?_
                  rw [rounds_succ]
                  go_wp2
                  rw [rounds_succ]
                  go_wp2
                  rw [rounds_succ]
                  go_wp2
                  rw [rounds_succ]
                  go_wp2_with (go_at_call 25; refine (stands_as _ false _ (by omega) (by omega) (HSV.out _ (by omega))).mono ?_; rintro e w' ⟨rfl, hw⟩; obtain rfl := hw.symm)
                  go_ret2
                  exact ⟨(ret_four (by have := HV.out; simp; omega)).trans (rbV_some HN.out), below_of hg⟩
            · have HN : Hid (rb s.data.toList = none) := by
                unfold Hid; rw [HR.out, if_neg (by simp [tells, dig]; omega)]
              by_cases dlo : z.toNat < 48
              all_goals
                go_enter Try.func23, Try.ntmps23
                go_wp2_with (first | (go_at_call 25; refine (stands_any _ _ (by omega) (by omega)).mono ?_; rintro e w' ⟨rfl, hw⟩; obtain rfl := hw.symm) | (refine wpList_bytes _ rfl (.tmp 21) rfl _ rfl [x, y, z] H3.out 3 rfl ?_; intro cap w1 hc hg hz; have c0 := hc 0 (by simp); have c1 := hc 1 (by simp); have c2 := hc 2 (by simp); simp at c0 c1 c2; clear hc))
                refine wp_loop_rounds 4 ?_
                rw [rounds_succ]
                go_wp2
                rw [rounds_succ]
                go_wp2
                rw [rounds_succ]
                go_wp2
                go_ret2
                exact ⟨rbV_none HN.out, below_of hg⟩
          · have HN : Hid (rb s.data.toList = none) := by
              unfold Hid; rw [HR.out, if_neg (by simp [tells, dig]; omega)]
            by_cases dlo : y.toNat < 48
            all_goals
              go_enter Try.func23, Try.ntmps23
              go_wp2_with (first | (go_at_call 25; refine (stands_any _ _ (by omega) (by omega)).mono ?_; rintro e w' ⟨rfl, hw⟩; obtain rfl := hw.symm) | (refine wpList_bytes _ rfl (.tmp 21) rfl _ rfl [x, y, z] H3.out 3 rfl ?_; intro cap w1 hc hg hz; have c0 := hc 0 (by simp); have c1 := hc 1 (by simp); have c2 := hc 2 (by simp); simp at c0 c1 c2; clear hc))
              refine wp_loop_rounds 4 ?_
              rw [rounds_succ]
              go_wp2
              rw [rounds_succ]
              go_wp2
              go_ret2
              exact ⟨rbV_none HN.out, below_of hg⟩
        · have HN : Hid (rb s.data.toList = none) := by
            unfold Hid; rw [HR.out, if_neg (by simp [tells, dig]; omega)]
          by_cases dlo : x.toNat < 48
          all_goals
            go_enter Try.func23, Try.ntmps23
            go_wp2_with (first | (go_at_call 25; refine (stands_any _ _ (by omega) (by omega)).mono ?_; rintro e w' ⟨rfl, hw⟩; obtain rfl := hw.symm) | (refine wpList_bytes _ rfl (.tmp 21) rfl _ rfl [x, y, z] H3.out 3 rfl ?_; intro cap w1 hc hg hz; have c0 := hc 0 (by simp); have c1 := hc 1 (by simp); have c2 := hc 2 (by simp); simp at c0 c1 c2; clear hc))
            refine wp_loop_rounds 4 ?_
            rw [rounds_succ]
            go_wp2
            go_ret2
            exact ⟨rbV_none HN.out, below_of hg⟩

end Go.Proofs.Ytkfpboippchdbaa
