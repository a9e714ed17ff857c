/- What ServeOnce walks by: the place of an address, single; names of one label. -/
import Derived.Test.YtpaebheklhlipaaSvG
namespace Go.Proofs.Ytpaebheklhlipaa
open Go.RowKit
open Pl
namespace Sv

theorem hasI_adF (xs : List Int) (a : Int) : hasI (adF xs) a = hasI xs a := by
  rw [hasI_eq, hasI_eq, Bool.eq_iff_iff, List.contains_iff_mem, List.contains_iff_mem, adF_mem]
theorem addF_pre (xs : List Int) : ∀ acc : List Int, ∃ t, xs.foldl stepF acc = acc ++ t := by
  induction xs with
  | nil => intro acc; exact ⟨[], by simp⟩
  | cons y xs ih =>
    intro acc
    obtain ⟨t, ht⟩ := ih (stepF acc y)
    rw [List.foldl_cons, ht]
    unfold stepF
    split
    · exact ⟨t, rfl⟩
    · exact ⟨y :: t, by simp⟩
/-- An address that comes for the first time stands behind those that came before. -/
theorem adF_at {xs : List Int} {i : Nat} (hi : i < xs.length) (hh : hasI (xs.take i) xs[i] = false) : (adF (xs.take i)).length < (adF xs).length ∧ (adF xs)[(adF (xs.take i)).length]? = some xs[i] := by
  have e1 : adF (xs.take (i + 1)) = adF (xs.take i) ++ [xs[i]] := by
    rw [adF_take hi]
    unfold stepF
    rw [← hasI_eq, hasI_adF, hh]
    rfl
  have e2 : adF xs = (xs.drop (i + 1)).foldl stepF (adF (xs.take (i + 1))) := by
    conv => lhs; rw [← List.take_append_drop (i + 1) xs]
    unfold adF
    rw [List.foldl_append]
  obtain ⟨t, ht⟩ := addF_pre (xs.drop (i + 1)) (adF (xs.take (i + 1)))
  rw [e2, ht, e1]
  refine ⟨by simp, ?_⟩
  rw [List.append_assoc, List.getElem?_append_right (Nat.le_refl _), Nat.sub_self]
  rfl
theorem adF_next {xs : List Int} {i : Nat} (hi : i < xs.length) : (adF (xs.take (i + 1))).length = (adF (xs.take i)).length + (if hasI (xs.take i) xs[i] = true then 0 else 1) := by
  rw [adF_take hi]
  unfold stepF
  rw [← hasI_eq, hasI_adF]
  by_cases h : hasI (xs.take i) xs[i] = true
  · rw [if_pos h, if_pos h, Nat.add_zero]
  · rw [if_neg h, if_neg h]; simp
theorem want_none (hosts : List ByteArray) : wantL hosts [] = hosts := by
  unfold wantL
  refine List.filter_eq_self.2 (fun h _ => ?_)
  show (!false && !aboveB [] h.data.toList) = true
  unfold aboveB
  rw [nil_no]
  rfl
/-- A text of one length byte, as many bytes and a zero is a name. -/
theorem single_name {s : ByteArray} {n : Nat} (hs : s.size = n + 2) (h0 : 0 < n) (h1 : n < 64) (hx : (s[0]'(by omega)).toNat = n) (hz : (s[s.size - 1]'(by omega)).toNat = 0) : isName s.data.toList = true := by
  have hl : s.data.toList.length = n + 2 := by rw [data_len]; exact hs
  have e0 : s.data.toList[0]'(by omega) = UInt8.ofNat n := by
    have : s.data.toList[0]'(by omega) = s[0]'(by omega) := byte_at s 0 (by omega)
    rw [this]
    refine UInt8.toNat_inj.1 ?_
    rw [hx, UInt8.toNat_ofNat']
    exact (Nat.mod_eq_of_lt (by omega)).symm
  have e1 : s.data.toList[n + 1]'(by omega) = 0 := by
    have : s.data.toList[n + 1]'(by omega) = s[n + 1]'(by omega) := byte_at s (n + 1) (by omega)
    rw [this]
    have h2 : s[n + 1]'(by omega) = s[s.size - 1]'(by omega) := by congr 1; omega
    rw [h2]
    exact UInt8.toNat_inj.1 (by rw [hz]; rfl)
  have e2 : s.data.toList = enc [(s.data.toList.drop 1).take n] := by
    have hlen : ((s.data.toList.drop 1).take n).length = n := by rw [List.length_take, List.length_drop]; omega
    unfold enc pre
    rw [List.flatMap_cons, List.flatMap_nil, List.append_nil, hlen, ← e0]
    have h3 : s.data.toList = s.data.toList[0]'(by omega) :: s.data.toList.drop 1 := by
      conv => lhs; rw [← List.drop_zero (l := s.data.toList), List.drop_eq_getElem_cons (by omega)]
    have h4 : s.data.toList.drop 1 = (s.data.toList.drop 1).take n ++ [0] := by
      conv => lhs; rw [← List.take_append_drop n (s.data.toList.drop 1)]
      congr 1
      rw [List.drop_drop, Nat.add_comm 1 n, List.drop_eq_getElem_cons (by omega), e1, List.drop_eq_nil_of_le (by omega)]
    conv => lhs; rw [h3, h4]
    rfl
  rw [e2]
  refine (name_enc (ls := [(s.data.toList.drop 1).take n]) (fun x hx => ?_) ?_).1
  · simp only [List.mem_singleton] at hx
    subst hx
    rw [List.length_take, List.length_drop]
    omega
  · rw [← e2, hl]; omega

/-- Is the first byte the length of one label? -/
def singB (x n : Nat) : Bool := decide (x + 2 = n) && decide (0 < x) && decide (x < 64)
set_option maxRecDepth 20000 in
theorem single_any (s : ByteArray) (w : World) (h0 : 2 ≤ s.size) (hs : s.size ≤ maxLen) :
    Calls Try.prog 19 #[.string s] w fun e w' => e = .returned (.bool (singB (s[0]'(by omega)).toNat s.size)) ∧ w' = w := by
  unfold maxLen at hs
  have hi := fun u => idx s 0 0 rfl (by omega) u
  obtain ⟨x, hx⟩ : ∃ x, x = (s[0]'(by omega)).toNat := ⟨_, rfl⟩
  have hxb : x < 256 := by rw [hx]; exact UInt8.toNat_lt _
  rw [← hx] at hi ⊢
  obtain ⟨n, hn⟩ : ∃ n, n = s.size := ⟨_, rfl⟩
  rw [← hn] at h0 hs ⊢
  have HS : Hid (s.size = n) := hn.symm
  have hsz := hn.symm
  clear hx hn
  by_cases e1 : x + 2 = n
  · have t1 : ((x : Int) == (n : Int) - 2) = true := by rw [beq_iff_eq]; omega
    by_cases e2 : 0 < x
    · have t2 : (0 : Int) < (x : Int) := by omega
      have HR : Hid (decide ((x : Int) < 64) = singB x n) := by
        unfold Hid singB
        rw [decide_eq_true e1, decide_eq_true e2, Bool.true_and, Bool.true_and, Bool.eq_iff_iff, decide_eq_true_eq, decide_eq_true_eq]
        omega
      by_cases e3 : x < 64
      · have t3 : (x : Int) < 64 := by omega
        have HR2 : Hid (true = singB x n) := by unfold Hid; rw [← HR.out, decide_eq_true t3]
        go_enter Try.func19, Try.ntmps19
        go_wp2
        go_ret
        exact ⟨ret_bool HR2.out, rfl⟩
      · have t3 : decide ((x : Int) < 64) = false := by rw [decide_eq_false_iff_not]; omega
        have HR2 : Hid (false = singB x n) := by unfold Hid; rw [← HR.out, t3]
        go_enter Try.func19, Try.ntmps19
        go_wp2
        go_ret
        exact ⟨ret_bool HR2.out, rfl⟩
    · have HR2 : Hid (false = singB x n) := by unfold Hid singB; rw [decide_eq_false e2]; simp
      have t2 : decide ((0 : Int) < (x : Int)) = false := by rw [decide_eq_false_iff_not]; omega
      go_enter Try.func19, Try.ntmps19
      go_wp2
      go_ret
      exact ⟨ret_bool HR2.out, rfl⟩
  · have HR2 : Hid (false = singB x n) := by unfold Hid singB; rw [decide_eq_false e1]; simp
    have t1 : ((x : Int) == (n : Int) - 2) = false := by rw [beq_eq_false_iff_ne]; omega
    go_enter Try.func19, Try.ntmps19
    go_wp2
    go_ret
    exact ⟨ret_bool HR2.out, rfl⟩

end Sv
end Go.Proofs.Ytpaebheklhlipaa
