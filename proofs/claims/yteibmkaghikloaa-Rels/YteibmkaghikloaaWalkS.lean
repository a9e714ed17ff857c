/- What Parent, Last and Child of the document's answers give, for every argument. -/
import Derived.Test.YteibmkaghikloaaWalkR
namespace Go.Proofs.Yteibmkaghikloaa
open Go.RowKit
open Pl

set_option maxRecDepth 20000 in
set_option maxHeartbeats 1000000 in
theorem refParent_any (s : ByteArray) (w : World) (hs : s.size ≤ maxLen) :
    Calls Try.prog 10 #[.string s] w fun e w' => e = .returned (optV (parR s.data.toList)) ∧ Below w.heap.size w w' := by
  have hbel : Below w.heap.size w w := Below.refl _ _
  by_cases h : isName s.data.toList = true ∧ (labs s.data.toList).length ≠ 0
  · obtain ⟨h1, h2⟩ := h
    obtain ⟨j, hj⟩ : ∃ j, (labs s.data.toList).length = j + 1 := ⟨(labs s.data.toList).length - 1, by omega⟩
    obtain ⟨n, hn⟩ : ∃ n, n = (labs s.data.toList).length := ⟨_, rfl⟩
    have hnj : (n : Int) - 1 = (j : Int) := by omega
    have hn1 : decide ((n : Int) < 1) = false := by simp; omega
    have hn127 : n ≤ 127 := by rw [hn]; exact few h1
    have HC : Hid (cnt s.data.toList = n) := by unfold Hid; rw [hn]; exact cnt_labs h1
    obtain ⟨T, hT⟩ : ∃ T : ByteArray, T.data.toList = lastN s.data.toList j := ⟨⟨(lastN s.data.toList j).toArray⟩, by simp⟩
    have HT : Hid (T.data.toList = lastN s.data.toList j) := hT
    have HK : Hid (j ≤ (labs s.data.toList).length) := by unfold Hid; omega
    have HR : Hid (parR s.data.toList = some T.data.toList) := by
      unfold Hid parR
      rw [if_pos ⟨h1, h2⟩, hT]
      unfold lastN
      congr 3
      omega
    clear hj hn hT h2
    go_enter Try.func10, Try.ntmps10
    go_wp2_with (first
      | (go_at_call 26; refine (refCount_as s n _ hs HC.out).mono ?_; rintro e w1 ⟨rfl, b1⟩; replace hbel := next hbel b1; clear b1)
      | (go_at_call 30; refine (refL_any s T j _ h1 HK.out HT.out).mono ?_; rintro e w1 ⟨rfl, b1⟩; replace hbel := next hbel b1; clear b1))
    go_ret2
    exact ⟨ret_some HR.out, hbel⟩
  · have HR : Hid (parR s.data.toList = none) := by unfold Hid parR; rw [if_neg h]
    have HC : Hid (cnt s.data.toList = 0) := by
      unfold Hid
      cases h1 : isName s.data.toList with
      | false => exact cnt_none' h1
      | true =>
        rw [cnt_labs h1]
        rcases Nat.eq_zero_or_pos (labs s.data.toList).length with h2 | h2
        · exact h2
        · exact absurd ⟨h1, by omega⟩ h
    clear h
    go_enter Try.func10, Try.ntmps10
    go_wp2_with (go_at_call 26; refine (refCount_as s 0 _ hs HC.out).mono ?_; rintro e w1 ⟨rfl, b1⟩; replace hbel := next hbel b1; clear b1)
    go_ret2
    exact ⟨ret_none HR.out, hbel⟩

set_option maxRecDepth 20000 in
set_option maxHeartbeats 1000000 in
theorem refLast_any (s : ByteArray) (k : Int) (w : World) (hs : s.size ≤ maxLen) :
    Calls Try.prog 12 #[.string s, .int .i64 k] w fun e w' => e = .returned (optV (lastR s.data.toList k)) ∧ Below w.heap.size w w' := by
  have hbel : Below w.heap.size w w := Below.refl _ _
  cases h : isName s.data.toList with
  | false =>
    have HR : Hid (lastR s.data.toList k = none) := last_no (.inl h)
    go_enter Try.func12, Try.ntmps12
    go_wp2_with (go_at_call 25; refine (refMay_as s false _ hs h).mono ?_; rintro e w1 ⟨rfl, b1⟩; replace hbel := next hbel b1; clear b1)
    go_ret2
    exact ⟨ret_none HR.out, hbel⟩
  | true =>
    obtain ⟨n, hn⟩ : ∃ n, n = (labs s.data.toList).length := ⟨_, rfl⟩
    have HC : Hid (cnt s.data.toList = n) := by unfold Hid; rw [hn]; exact cnt_labs h
    by_cases hk0 : k < 0
    · have HR : Hid (lastR s.data.toList k = none) := last_no (.inr (.inl hk0))
      clear hn
      go_enter Try.func12, Try.ntmps12
      go_wp2_with (go_at_call 25; refine (refMay_as s true _ hs h).mono ?_; rintro e w1 ⟨rfl, b1⟩; replace hbel := next hbel b1; clear b1)
      go_ret2
      exact ⟨ret_none HR.out, hbel⟩
    · have hk0' : decide (k < 0) = false := by simpa using hk0
      by_cases hkn : (n : Int) < k
      · have HR : Hid (lastR s.data.toList k = none) := last_no (.inr (.inr (by rw [← hn]; exact hkn)))
        clear hn
        go_enter Try.func12, Try.ntmps12
        go_wp2_with (first
          | (go_at_call 25; refine (refMay_as s true _ hs h).mono ?_; rintro e w1 ⟨rfl, b1⟩; replace hbel := next hbel b1; clear b1)
          | (go_at_call 26; refine (refCount_as s n _ hs HC.out).mono ?_; rintro e w1 ⟨rfl, b1⟩; replace hbel := next hbel b1; clear b1))
        go_ret2
        exact ⟨ret_none HR.out, hbel⟩
      · obtain ⟨K, rfl⟩ : ∃ K : Nat, k = (K : Int) := ⟨k.toNat, by omega⟩
        have hkn' : decide (n < K) = false := by simp; omega
        obtain ⟨T, hT⟩ : ∃ T : ByteArray, T.data.toList = lastN s.data.toList K := ⟨⟨(lastN s.data.toList K).toArray⟩, by simp⟩
        have HT : Hid (T.data.toList = lastN s.data.toList K) := hT
        have HK : Hid (K ≤ (labs s.data.toList).length) := by unfold Hid; omega
        have HR : Hid (lastR s.data.toList (K : Int) = some T.data.toList) := by unfold Hid; rw [last_yes h (by omega), hT]
        clear hn hT hk0 hkn hk0'
        go_enter Try.func12, Try.ntmps12
        go_wp2_with (first
          | (go_at_call 25; refine (refMay_as s true _ hs h).mono ?_; rintro e w1 ⟨rfl, b1⟩; replace hbel := next hbel b1; clear b1)
          | (go_at_call 26; refine (refCount_as s n _ hs HC.out).mono ?_; rintro e w1 ⟨rfl, b1⟩; replace hbel := next hbel b1; clear b1)
          | (go_at_call 30; refine (refL_any s T K _ h HK.out HT.out).mono ?_; rintro e w1 ⟨rfl, b1⟩; replace hbel := next hbel b1; clear b1))
        go_ret2
        exact ⟨ret_some HR.out, hbel⟩

set_option maxRecDepth 20000 in
set_option maxHeartbeats 1000000 in
theorem refChild_any (x s : ByteArray) (w : World) (_hx : x.size ≤ maxLen) (hs : s.size ≤ maxLen) :
    Calls Try.prog 14 #[.string x, .string s] w fun e w' => e = .returned (optV (childR x.data.toList s.data.toList)) ∧ Below w.heap.size w w' := by
  have hbel : Below w.heap.size w w := Below.refl _ _
  have hxl := data_len x
  have hsl := data_len s
  by_cases h1 : (x.size : Int) < 1
  · have HR : Hid (childR x.data.toList s.data.toList = none) := child_no (.inl (by omega))
    go_enter Try.func14, Try.ntmps14
    go_wp2
    go_ret2
    exact ⟨ret_none HR.out, Below.refl _ _⟩
  · have h1' : decide ((x.size : Int) < 1) = false := by simpa using h1
    by_cases h2 : (63 : Int) < (x.size : Int)
    · have HR : Hid (childR x.data.toList s.data.toList = none) := child_no (.inr (.inl (by omega)))
      go_enter Try.func14, Try.ntmps14
      go_wp2
      go_ret2
      exact ⟨ret_none HR.out, Below.refl _ _⟩
    · have h2' : decide ((63 : Int) < (x.size : Int)) = false := by simpa using h2
      cases h3 : isName s.data.toList with
      | false =>
        have HR : Hid (childR x.data.toList s.data.toList = none) := child_no (.inr (.inr (.inl h3)))
        go_enter Try.func14, Try.ntmps14
        go_wp2_with (go_at_call 25; refine (refMay_as s false _ hs h3).mono ?_; rintro e w1 ⟨rfl, b1⟩; replace hbel := next hbel b1; clear b1)
        go_ret2
        exact ⟨ret_none HR.out, hbel⟩
      | true =>
        have h255 := name_size h3
        by_cases h4 : (255 : Int) < 1 + (x.size : Int) + (s.size : Int)
        · have HR : Hid (childR x.data.toList s.data.toList = none) := child_no (.inr (.inr (.inr (by omega))))
          go_enter Try.func14, Try.ntmps14
          go_wp2_with (go_at_call 25; refine (refMay_as s true _ hs h3).mono ?_; rintro e w1 ⟨rfl, b1⟩; replace hbel := next hbel b1; clear b1)
          go_ret2
          exact ⟨ret_none HR.out, hbel⟩
        · have h4' : decide ((255 : Int) < 1 + (x.size : Int) + (s.size : Int)) = false := by simpa using h4
          have h5 : x.size ≤ 63 := by omega
          have h6 : s.size ≤ 255 := by omega
          obtain ⟨K, hK⟩ : ∃ K : UInt8, K.toNat = x.size := ⟨UInt8.ofNat x.size, toNat_of (by omega)⟩
          have HR : Hid (childR x.data.toList s.data.toList = some (({ data := #[K] } : ByteArray) ++ x ++ s).data.toList) := by
            unfold Hid childR
            rw [if_pos ⟨by omega, by omega, h3, by omega⟩, hxl]
            have : UInt8.ofNat x.size = K := UInt8.toNat_inj.1 (by rw [toNat_of (by omega), hK])
            rw [this]
            simp
          have hcv : ∀ (u : World) (g : Nat), g = u.heap.size → (convert 40 9 (.slice (some ⟨g, 0, none⟩) 1 1)).run Try.prog (u.alloc (.cells #[.int .u8 (x.size : Int)] 5)) = .ok (.string ⟨#[K]⟩) (u.alloc (.cells #[.int .u8 (x.size : Int)] 5)) := fun u g hg => by
            subst hg
            have := conv_lit [K] u
            simp only [List.map_cons, List.map_nil, bv, hK] at this
            exact this
          clear h1 h2 h4 hK
          go_enter Try.func14, Try.ntmps14
          go_wp2_with (go_at_call 25; refine (refMay_as s true _ hs h3).mono ?_; rintro e w1 ⟨rfl, b1⟩; replace hbel := next hbel b1; clear b1)
          go_ret2
          exact ⟨ret_some HR.out, lay hbel _⟩

end Go.Proofs.Yteibmkaghikloaa
