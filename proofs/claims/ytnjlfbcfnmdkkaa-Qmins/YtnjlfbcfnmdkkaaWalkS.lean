/- What Parent, Last and Child of the document's answers give, for every argument. -/
import Derived.Test.YtnjlfbcfnmdkkaaWalkR
namespace Go.Proofs.Ytnjlfbcfnmdkkaa
open Go.RowKit
open Pl

set_option maxRecDepth 20000 in
set_option maxHeartbeats 1000000 in
theorem refLast_any (s : ByteArray) (k : Int) (w : World) (hs : s.size ≤ maxLen) :
    Calls Try.prog 20 #[.string s, .int .i64 k] w fun e w' => e = .returned (optV (lastR s.data.toList k)) ∧ Below w.heap.size w w' := by
  have hbel : Below w.heap.size w w := Below.refl _ _
  cases h : isName s.data.toList with
  | false =>
    have HR : Hid (lastR s.data.toList k = none) := last_no (.inl h)
    go_enter Try.func20, Try.ntmps20
    go_wp2_with (go_at_call 19; refine (refMay_as s false _ hs h).mono ?_; rintro e w1 ⟨rfl, b1⟩; replace hbel := next hbel b1; clear b1)
    go_ret2
    exact ⟨ret_none HR.out, hbel⟩
  | true =>
    obtain ⟨n, hn⟩ : ∃ n, n = (labs s.data.toList).length := ⟨_, rfl⟩
    have HC : Hid (cnt s.data.toList = n) := by unfold Hid; rw [hn]; exact cnt_labs h
    by_cases hk0 : k < 0
    · have HR : Hid (lastR s.data.toList k = none) := last_no (.inr (.inl hk0))
      clear hn
      go_enter Try.func20, Try.ntmps20
      go_wp2_with (go_at_call 19; refine (refMay_as s true _ hs h).mono ?_; rintro e w1 ⟨rfl, b1⟩; replace hbel := next hbel b1; clear b1)
      go_ret2
      exact ⟨ret_none HR.out, hbel⟩
    · have hk0' : decide (k < 0) = false := by simpa using hk0
      by_cases hkn : (n : Int) < k
      · have HR : Hid (lastR s.data.toList k = none) := last_no (.inr (.inr (by rw [← hn]; exact hkn)))
        clear hn
        go_enter Try.func20, Try.ntmps20
        go_wp2_with (first
          | (go_at_call 19; refine (refMay_as s true _ hs h).mono ?_; rintro e w1 ⟨rfl, b1⟩; replace hbel := next hbel b1; clear b1)
          | (go_at_call 18; refine (refCount_as s n _ hs HC.out).mono ?_; rintro e w1 ⟨rfl, b1⟩; replace hbel := next hbel b1; clear b1))
        go_ret2
        exact ⟨ret_none HR.out, hbel⟩
      · obtain ⟨K, rfl⟩ : ∃ K : Nat, k = (K : Int) := ⟨k.toNat, by omega⟩
        have hkn' : decide (n < K) = false := by simp; omega
        obtain ⟨T, hT⟩ : ∃ T : ByteArray, T.data.toList = lastN s.data.toList K := ⟨⟨(lastN s.data.toList K).toArray⟩, by simp⟩
        have HT : Hid (T.data.toList = lastN s.data.toList K) := hT
        have HK : Hid (K ≤ (labs s.data.toList).length) := by unfold Hid; omega
        have HR : Hid (lastR s.data.toList (K : Int) = some T.data.toList) := by unfold Hid; rw [last_yes h (by omega), hT]
        clear hn hT hk0 hkn hk0'
        go_enter Try.func20, Try.ntmps20
        go_wp2_with (first
          | (go_at_call 19; refine (refMay_as s true _ hs h).mono ?_; rintro e w1 ⟨rfl, b1⟩; replace hbel := next hbel b1; clear b1)
          | (go_at_call 18; refine (refCount_as s n _ hs HC.out).mono ?_; rintro e w1 ⟨rfl, b1⟩; replace hbel := next hbel b1; clear b1)
          | (go_at_call 26; refine (refL_any s T K _ h HK.out HT.out).mono ?_; rintro e w1 ⟨rfl, b1⟩; replace hbel := next hbel b1; clear b1))
        go_ret2
        exact ⟨ret_some HR.out, hbel⟩

end Go.Proofs.Ytnjlfbcfnmdkkaa
