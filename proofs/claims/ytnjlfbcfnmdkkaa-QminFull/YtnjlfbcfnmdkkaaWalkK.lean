/- What Above of package rel gives, for every argument. -/
import Derived.Test.YtnjlfbcfnmdkkaaWalkJ
namespace Go.Proofs.Ytnjlfbcfnmdkkaa
open Go.RowKit
open Pl

theorem two_first (w : World) (Z : Array Value) : ((w.alloc (.cells Z 61)).alloc (.cells Z 61)).heap[w.heap.size]? = some (.cells Z 61 (0, 0)) := by
  rw [Below.heap_alloc (w.alloc (.cells Z 61)) _ w.heap.size (by simp)]
  exact heap_alloc_last w _
theorem two_second (w : World) (Z : Array Value) : ((w.alloc (.cells Z 61)).alloc (.cells Z 61)).heap[w.heap.size + 1]? = some (.cells Z 61 (0, 0)) := by
  have := heap_alloc_last (w.alloc (.cells Z 61)) (.cells Z 61)
  simpa using this

/-- Two new blocks, each written: what lies there, and that nothing else has turned. -/
theorem two_stored {w w2 w3 w4 : World} {Z C : Array Value} (hb : Below w.heap.size w w2)
    (h1 : w3.heap[w2.heap.size]? = some (.cells C 61 (0, 0))) (h2 : ((w2.alloc (.cells Z 61)).alloc (.cells Z 61)).grownBy w3 (some w2.heap.size)) (h3 : w3.heap.size = ((w2.alloc (.cells Z 61)).alloc (.cells Z 61)).heap.size)
    (k2 : w3.grownBy w4 (some (w2.heap.size + 1))) :
    w4.heap[w2.heap.size]? = some (.cells C 61 (0, 0)) ∧ Below w.heap.size w w4 := by
  have hs := hb.size
  have hs3 : w3.heap.size = w2.heap.size + 2 := by rw [h3]; simp
  refine ⟨?_, ?_⟩
  · rw [k2.block w2.heap.size (by omega) (by intro e; have := Option.some.inj e; omega)]; exact h1
  · have b1 : Below w.heap.size w ((w2.alloc (.cells Z 61)).alloc (.cells Z 61)) := lay (lay hb _) _
    have b2 : Below w.heap.size ((w2.alloc (.cells Z 61)).alloc (.cells Z 61)) w3 := ⟨h2.os, h2.tape, h2.output, h2.size, fun i hi => h2.block i (by simp; omega) (by intro e; have := Option.some.inj e; omega)⟩
    have b3 : Below w.heap.size w3 w4 := ⟨k2.os, k2.tape, k2.output, k2.size, fun i hi => k2.block i (by omega) (by intro e; have := Option.some.inj e; omega)⟩
    exact (b1.trans b2).trans b3

theorem two_left {w2 w3 : World} {Z : Array Value} (h2 : ((w2.alloc (.cells Z 61)).alloc (.cells Z 61)).grownBy w3 (some w2.heap.size)) : w3.heap[w2.heap.size + 1]? = some (.cells Z 61 (0, 0)) := by
  rw [h2.block (w2.heap.size + 1) (by simp) (by intro e; have := Option.some.inj e; omega)]
  exact two_second w2 Z

theorem above_ord {a b t : List UInt8} (h1 : isName a = true) (h2 : isName b = true) (h3 : (labs a).length ≤ (labs b).length) (ht : t = lastN b (labs a).length) : (ord a t == 0) = aboveB a b := by
  unfold aboveB
  rw [h1, h2, ht, Bool.eq_iff_iff]
  simp [h3, ord_zero]

set_option maxRecDepth 20000 in
set_option maxHeartbeats 2000000 in
theorem above_any (a b : ByteArray) (w : World) (ha : a.size ≤ maxLen) (hb : b.size ≤ maxLen) :
    Calls Try.prog 23 #[.string a, .string b] w fun e w' => e = .returned (.bool (aboveB a.data.toList b.data.toList)) ∧ Below w.heap.size w w' := by
  cases ha1 : isName a.data.toList with
  | false =>
    have HR : Hid (false = aboveB a.data.toList b.data.toList) := by unfold Hid aboveB; rw [ha1]; rfl
    go_enter Try.func23, Try.ntmps23
    go_wp2_with (go_at_call 28; refine (may_as _ false _ ha ha1).mono ?_; rintro e w' ⟨rfl, hw⟩; obtain rfl := hw.symm)
    go_ret
    exact ⟨ret_bool HR.out, Below.refl _ _⟩
  | true =>
    cases hb1 : isName b.data.toList with
    | false =>
      have HR : Hid (false = aboveB a.data.toList b.data.toList) := by unfold Hid aboveB; rw [ha1, hb1]; rfl
      have t1 : True := trivial
      have t2 : True := trivial
      go_enter Try.func23, Try.ntmps23
      go_wp2_with (first
        | (go_at_call 28; have _t := t1; refine (may_as _ true _ ha ha1).mono ?_; rintro e w' ⟨rfl, hw⟩; obtain rfl := hw.symm; clear t1)
        | (go_at_call 28; have _t := t2; refine (may_as _ false _ hb hb1).mono ?_; rintro e w' ⟨rfl, hw⟩; obtain rfl := hw.symm; clear t2))
      go_ret
      exact ⟨ret_bool HR.out, Below.refl _ _⟩
    | true =>
      obtain ⟨Z, hz, hZs⟩ := zero47
      obtain ⟨n, hn⟩ : ∃ n, n = (labs a.data.toList).length := ⟨_, rfl⟩
      obtain ⟨m, hm⟩ : ∃ m, m = (labs b.data.toList).length := ⟨_, rfl⟩
      have HN : Hid (n = (labs a.data.toList).length) := hn
      have HM : Hid (m = (labs b.data.toList).length) := hm
      have h127 : n ≤ 127 := by rw [hn]; exact few ha1
      have h127m : m ≤ 127 := by rw [hm]; exact few hb1
      by_cases hnm : m < n
      · have HR : Hid (false = aboveB a.data.toList b.data.toList) := (above_few (by omega)).symm
        have t1 : True := trivial
        have t2 : True := trivial
        have t3 : True := trivial
        have t4 : True := trivial
        clear hn hm
        go_enter Try.func23, Try.ntmps23
        go_wp2_with (first
          | (go_at_call 28; have _t := t1; refine (may_as _ true _ ha ha1).mono ?_; rintro e w' ⟨rfl, hw⟩; obtain rfl := hw.symm; clear t1)
          | (go_at_call 28; have _t := t2; refine (may_as _ true _ hb hb1).mono ?_; rintro e w' ⟨rfl, hw⟩; obtain rfl := hw.symm; clear t2)
          | (go_at_call 29; have _t := t3; refine (gather_any _ _ ha1).mono ?_; rintro e w1 ⟨C, rfl, hbel1, hF⟩; have HF : Hid (Fill (labs a.data.toList) (labs a.data.toList).length C) := hF; clear hF t3)
          | (go_at_call 29; have _t := t4; refine (gather_any _ _ hb1).mono ?_; rintro e w2 ⟨D, rfl, hbel2, hG⟩; have HG : Hid (Fill (labs b.data.toList) (labs b.data.toList).length D) := hG; clear hG t4)
          | (refine wpList_storePl _ rfl (.tmp 5) (.tmp 16) rfl w2.heap.size Z C rfl rfl (two_first _ _) hZs HF.out.1 HF.out.all ?_; intro w3 h1 h2 h3; go_must (refine wpList_storePl _ rfl (.tmp 6) (.tmp 18) rfl (w2.heap.size + 1) Z D rfl rfl (two_left h2) hZs HG.out.1 HG.out.all ?_); intro w4 k1 k2 k3; have hst := two_stored (next hbel1 hbel2) h1 h2 h3 k2; have hca := (fill_at hst.1 HF.out).1; have hcb := (fill_at k1 HG.out).1; rw [← HN.out] at hca; rw [← HM.out] at hcb; have hbel := hst.2; clear hst))
        go_ret
        exact ⟨ret_bool HR.out, hbel⟩
      · obtain ⟨P, hP⟩ : ∃ P, P = pos (labs b.data.toList) (m - n) := ⟨_, rfl⟩
        have hPs : P ≤ b.size := by have := pos_in hb1 (m - n); omega
        have HP : Hid (P = pos (labs b.data.toList) (m - n)) := hP
        have hnm' : n ≤ m := by omega
        have hnm2 : decide ((m : Int) < (n : Int)) = false := by simp; omega
        have HR : Hid ((ord a.data.toList (b.extract P b.size).data.toList == 0) = aboveB a.data.toList b.data.toList) := by
          unfold Hid
          exact above_ord ha1 hb1 (by omega) (by rw [hP, hm, hn, last_ext hb1])
        have hts : (b.extract P b.size).size ≤ maxLen := by have := name_size hb1; unfold maxLen; simp; omega
        have t1 : True := trivial
        have t2 : True := trivial
        have t3 : True := trivial
        have t4 : True := trivial
        clear hn hm hP hnm
        go_enter Try.func23, Try.ntmps23
        go_wp2_with (first
          | (go_at_call 28; have _t := t1; refine (may_as _ true _ ha ha1).mono ?_; rintro e w' ⟨rfl, hw⟩; obtain rfl := hw.symm; clear t1)
          | (go_at_call 28; have _t := t2; refine (may_as _ true _ hb hb1).mono ?_; rintro e w' ⟨rfl, hw⟩; obtain rfl := hw.symm; clear t2)
          | (go_at_call 29; have _t := t3; refine (gather_any _ _ ha1).mono ?_; rintro e w1 ⟨C, rfl, hbel1, hF⟩; have HF : Hid (Fill (labs a.data.toList) (labs a.data.toList).length C) := hF; clear hF t3)
          | (go_at_call 29; have _t := t4; refine (gather_any _ _ hb1).mono ?_; rintro e w2 ⟨D, rfl, hbel2, hG⟩; have HG : Hid (Fill (labs b.data.toList) (labs b.data.toList).length D) := hG; clear hG t4)
          | (refine wpList_storePl _ rfl (.tmp 5) (.tmp 16) rfl w2.heap.size Z C rfl rfl (two_first _ _) hZs HF.out.1 HF.out.all ?_; intro w3 h1 h2 h3; go_must (refine wpList_storePl _ rfl (.tmp 6) (.tmp 18) rfl (w2.heap.size + 1) Z D rfl rfl (two_left h2) hZs HG.out.1 HG.out.all ?_); intro w4 k1 k2 k3; have hst := two_stored (next hbel1 hbel2) h1 h2 h3 k2; have hca := (fill_at hst.1 HF.out).1; have hcb := (fill_at k1 HG.out).1; rw [← HN.out] at hca; rw [← HM.out] at hcb; have hbel := hst.2; have HK : Hid (w4.heap[w2.heap.size + 1]? = some (.cells D 61 (0, 0))) := k1; clear hst k1)
          | (go_at_call 31; go_must (refine (plLast_any b (b.extract P b.size) _ (w2.heap.size + 1) m n P hnm' h127m hcb (by rw [HP.out]; exact (fill_at HK.out HG.out).2 _ (by have := HM.out; omega)) hPs rfl).mono ?_); rintro e w5 ⟨rfl, hd5⟩)
          | (go_at_call 30; go_must (refine (order_any _ _ _ ha hts).mono ?_); rintro e w6 ⟨rfl, hd6⟩))
        go_ret
        exact ⟨ret_bool (by rw [← ext_list]; exact HR.out), next (next hbel (below_drew hd5)) (below_drew hd6)⟩

end Go.Proofs.Ytnjlfbcfnmdkkaa
