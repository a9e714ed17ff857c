/- What Next of package qmin gives. -/
import Derived.Test.YtnjlfbcfnmdkkabQmB
import Derived.Test.YtnjlfbcfnmdkkabWalkO
import Derived.BigQuiet
namespace Go.Proofs.Ytnjlfbcfnmdkkab
open Go.RowKit
open Pl
namespace Qm

theorem big {s : ByteArray} (h : isName s.data.toList = true) : s.size ≤ maxLen := by have := name_size h; unfold maxLen; omega
def foldB (s : ByteArray) : ByteArray := ⟨(foldL s.data.toList).toArray⟩
theorem foldB_list (s : ByteArray) : (foldB s).data.toList = foldL s.data.toList := by simp [foldB]
def lastB (s : ByteArray) (k : Nat) : ByteArray := ⟨(lastN (foldL s.data.toList) k).toArray⟩
theorem lastB_list (s : ByteArray) (k : Nat) : (lastB s k).data.toList = lastN (foldL s.data.toList) k := by simp [lastB]
theorem labs_fold_len (l : List UInt8) : (labs (foldL l)).length = (labs l).length := by rw [labs_fold, List.length_map]

set_option maxRecDepth 20000 in
theorem ask_any (n : ByteArray) (k : Nat) (t : Int) (w : World) (hn : isName n.data.toList = true) (hk : k ≤ (labs n.data.toList).length) :
    Calls Try.prog 12 #[.string n, .int .i64 k, .int .i64 t] w fun e w' => e = .returned (.agg #[.string (lastB n k), .int .i64 t]) ∧ Below w.heap.size w w' := by
  have hs := big hn
  have hf : foldR n.data.toList = (foldB n).data.toList := by rw [foldR_yes hn, foldB_list]
  have hfn : isName (foldB n).data.toList = true := by rw [foldB_list, name_fold]; exact hn
  have hl : lastR (foldB n).data.toList (k : Int) = some (lastB n k).data.toList := by
    rw [last_yes hfn (by rw [foldB_list, labs_fold_len]; exact hk), foldB_list, lastB_list]
  have HF : Hid (foldR n.data.toList = (foldB n).data.toList) := hf
  have HL : Hid (lastR (foldB n).data.toList (k : Int) = some (lastB n k).data.toList) := hl
  have HS : Hid ((foldB n).size ≤ maxLen) := big hfn
  clear hf hl hfn hk
  obtain ⟨F, hF⟩ : ∃ F, F = foldB n := ⟨_, rfl⟩
  obtain ⟨L, hL⟩ : ∃ L, L = lastB n k := ⟨_, rfl⟩
  rw [← hF] at HF HL HS
  rw [← hL] at HL ⊢
  clear hF hL
  have hb : Below w.heap.size w (w.alloc (.cells #[.string ⟨#[]⟩, .int .i64 0] 28)) := lay (Below.refl _ _) _
  have hk := Blk.new w #[.string ⟨#[]⟩, .int .i64 0] 28
  go_enter Try.func12, Try.ntmps12
  go_wp2_with (first
    | (go_at_call 19; go_must (refine (fold_as _ _ _ hs HF.out).mono ?_); rintro e w1 ⟨rfl, b1⟩; replace hk := hk.below b1; replace hb := next hb b1; clear b1)
    | (go_at_call 18; go_must (refine (last_ok _ _ _ _ HS.out HL.out).mono ?_); rintro e w2 ⟨rfl, b2⟩; replace hk := hk.below b2; replace hb := next hb b2; clear b2)
    | (refine wpList_storeS _ rfl (.tmp 6) (.tmp 18) 28 rfl w.heap.size _ _ 28 rfl rfl hk (by kernel_rfl) rfl (by simp [Value.oneCell']) ?_; intro w3 k3 t3 _ _))
  exact bodyPost_ret (v := .agg #[.string L, .int .i64 t]) (ret_s rfl rfl k3 ⟨_, Try.underlying28⟩ (by kernel_rfl)) rfl ⟨rfl, t3.one_below hb (Nat.le_refl _)⟩

theorem tk_cells {w : World} {g : Nat} {n cut known : ByteArray} {t s sv tr : Int} {fb : Bool} (h : Blk w g #[.string n, .int .i64 t, .string cut, .string known, .int .i64 s, .bool fb, .int .i64 sv, .int .i64 tr] 32) :
    w.cell? ⟨g, 0, none⟩ = some (.string n) ∧ w.cell? ⟨g, 1, none⟩ = some (.int .i64 t) ∧ w.cell? ⟨g, 3, none⟩ = some (.string known) ∧ w.cell? ⟨g, 4, none⟩ = some (.int .i64 s) ∧ w.cell? ⟨g, 5, none⟩ = some (.bool fb) :=
  ⟨h.cell 0, h.cell 1, h.cell 3, h.cell 4, h.cell 5⟩

theorem count_as (s : ByteArray) (n : Nat) (w : World) (hs : s.size ≤ maxLen) (h : cnt s.data.toList = n) :
    Calls Try.prog 11 #[.string s] w fun e w' => e = .returned (.int .i64 n) ∧ w' = w := by rw [← h]; exact count_any s w hs
theorem size_as (s l c o : Int) (v : Value) (w : World) (h : sizeV s l c o = v) :
    Calls Try.prog 5 #[.int .i64 s, .int .i64 l, .int .i64 c, .int .i64 o] w fun e w' => e = .returned v ∧ Below w.heap.size w w' := by rw [← h]; exact size_any s l c o w

/-- What a task's numbers make of the answer. -/
theorem mayT_no {x : Tk} {c o : Int} (h : aboveB x.known.data.toList x.n.data.toList = false ∨ x.t < 1 ∨ 65535 < x.t ∨ mayS x.steps (leftI x) c o = false) : mayT x c o = false := by
  unfold mayT
  rcases h with h | h | h | h
  · rw [h]; rfl
  · rw [show decide (1 ≤ x.t ∧ x.t ≤ 65535) = false from by simp; omega]; simp
  · rw [show decide (1 ≤ x.t ∧ x.t ≤ 65535) = false from by simp; omega]; simp
  · rw [h]; simp
theorem mayT_yes {x : Tk} {c o : Int} (h : aboveB x.known.data.toList x.n.data.toList = true) (h1 : 1 ≤ x.t) (h2 : x.t ≤ 65535) (h3 : mayS x.steps (leftI x) c o = true) : mayT x c o = true := by
  unfold mayT
  rw [h, h3, show decide (1 ≤ x.t ∧ x.t ≤ 65535) = true from by simp; omega]
  rfl

set_option maxRecDepth 20000 in
set_option maxHeartbeats 4000000 in
theorem next_any (x : Tk) (c o : Int) (w : World) (hn : x.n.size ≤ maxLen) (hkn : x.known.size ≤ maxLen) :
    Calls Try.prog 7 #[.agg (tkC x), .int .i64 c, .int .i64 o] w fun e w' => e = .returned (nextV x c o) ∧ Below w.heap.size w w' := by
  obtain ⟨V, hV⟩ : ∃ V, V = nextV x c o := ⟨_, rfl⟩
  obtain ⟨X, hX⟩ : ∃ X, X = x := ⟨_, rfl⟩
  rw [← hV]
  rw [← hX] at hV
  have HX : Hid (X = x) := hX
  obtain ⟨n, t, cut, known, steps, fb, server, tries⟩ := x
  clear hX
  simp only [tkC] at hn hkn ⊢
  have h1 := Blk.new w #[.string n, .int .i64 t, .string cut, .string known, .int .i64 steps, .bool fb, .int .i64 server, .int .i64 tries] 32
  have k0 := h1.alloc (.cells #[.string ⟨#[]⟩, .int .i64 0] 28)
  have s0 := Blk.new (w.alloc (.cells #[.string n, .int .i64 t, .string cut, .string known, .int .i64 steps, .bool fb, .int .i64 server, .int .i64 tries] 32)) #[.string ⟨#[]⟩, .int .i64 0] 28
  rw [World.size_alloc] at s0
  have hb0 : Below w.heap.size w ((w.alloc (.cells #[.string n, .int .i64 t, .string cut, .string known, .int .i64 steps, .bool fb, .int .i64 server, .int .i64 tries] 32)).alloc (.cells #[.string ⟨#[]⟩, .int .i64 0] 28)) := lay (lay (Below.refl _ _) _) _
  have HB0 : Hid (Below w.heap.size w ((w.alloc (.cells #[.string n, .int .i64 t, .string cut, .string known, .int .i64 steps, .bool fb, .int .i64 server, .int .i64 tries] 32)).alloc (.cells #[.string ⟨#[]⟩, .int .i64 0] 28))) := hb0
  have HK0 : Hid (Blk ((w.alloc (.cells #[.string n, .int .i64 t, .string cut, .string known, .int .i64 steps, .bool fb, .int .i64 server, .int .i64 tries] 32)).alloc (.cells #[.string ⟨#[]⟩, .int .i64 0] 28)) w.heap.size #[.string n, .int .i64 t, .string cut, .string known, .int .i64 steps, .bool fb, .int .i64 server, .int .i64 tries] 32) := k0
  have HS0 : Hid (Blk ((w.alloc (.cells #[.string n, .int .i64 t, .string cut, .string known, .int .i64 steps, .bool fb, .int .i64 server, .int .i64 tries] 32)).alloc (.cells #[.string ⟨#[]⟩, .int .i64 0] 28)) (w.heap.size + 1) #[.string ⟨#[]⟩, .int .i64 0] 28) := s0
  clear h1 k0 s0 hb0
  cases ha : aboveB known.data.toList n.data.toList with
  | false =>
    have HR : Hid (V = .tuple #[.agg #[.string ⟨#[]⟩, .int .i64 0], .int .i64 1700]) := by
      unfold Hid; rw [hV]; exact nextV_no (mayT_no (.inl (by rw [HX.out]; exact ha)))
    clear hV
    go_enter Try.func7, Try.ntmps7
    go_wp2_with (first
      | (go_at_call 10; go_must (refine (above_as _ _ false _ hkn hn ha).mono ?_); rintro e w1 ⟨rfl, b1⟩; obtain ⟨c0, c1, c3, c4, c5⟩ := tk_cells (HK0.out.below b1); have hs1 := HS0.out.below b1; have hb1 := next HB0.out b1; clear b1)
      | (refine wpList_storeS _ rfl (.tmp 6) (.tmp 28) 28 rfl (w.heap.size + 1) _ _ 28 rfl rfl hs1 (by kernel_rfl) rfl (by simp [Value.oneCell']) ?_; intro w3 k3 t3 _ _))
    exact bodyPost_ret (ret_s1 rfl rfl rfl k3 ⟨_, Try.underlying28⟩ (by kernel_rfl)) rfl ⟨by rw [HR.out]; rfl, t3.one_below hb1 (by omega)⟩
  | true =>
    have HA : Hid (aboveB known.data.toList n.data.toList = true) := ha
    clear ha
    have hT : decide (t < 1) = true ∨ (decide (t < 1) = false ∧ decide (65535 < t) = true) ∨ (decide (t < 1) = false ∧ decide (65535 < t) = false) := by
      by_cases g1 : t < 1 <;> by_cases g2 : 65535 < t <;> simp [g1, g2]
    rcases hT with g1 | ⟨g1, g2⟩ | ⟨g1, g2⟩
    · have HR : Hid (V = .tuple #[.agg #[.string ⟨#[]⟩, .int .i64 0], .int .i64 1700]) := by
        unfold Hid; rw [hV]; exact nextV_no (mayT_no (.inr (.inl (by rw [HX.out]; simpa using g1))))
      clear hV
      go_enter Try.func7, Try.ntmps7
      go_wp2_with (first
        | (go_at_call 10; go_must (refine (above_as _ _ true _ hkn hn HA.out).mono ?_); rintro e w1 ⟨rfl, b1⟩; obtain ⟨c0, c1, c3, c4, c5⟩ := tk_cells (HK0.out.below b1); have hs1 := HS0.out.below b1; have hb1 := next HB0.out b1; clear b1)
        | (refine wpList_storeS _ rfl (.tmp 6) (.tmp 28) 28 rfl (w.heap.size + 1) _ _ 28 rfl rfl hs1 (by kernel_rfl) rfl (by simp [Value.oneCell']) ?_; intro w3 k3 t3 _ _))
      exact bodyPost_ret (ret_s1 rfl rfl rfl k3 ⟨_, Try.underlying28⟩ (by kernel_rfl)) rfl ⟨by rw [HR.out]; rfl, t3.one_below hb1 (by omega)⟩
    · have HR : Hid (V = .tuple #[.agg #[.string ⟨#[]⟩, .int .i64 0], .int .i64 1700]) := by
        unfold Hid; rw [hV]; exact nextV_no (mayT_no (.inr (.inr (.inl (by rw [HX.out]; simpa using g2)))))
      clear hV
      go_enter Try.func7, Try.ntmps7
      go_wp2_with (first
        | (go_at_call 10; go_must (refine (above_as _ _ true _ hkn hn HA.out).mono ?_); rintro e w1 ⟨rfl, b1⟩; obtain ⟨c0, c1, c3, c4, c5⟩ := tk_cells (HK0.out.below b1); have hs1 := HS0.out.below b1; have hb1 := next HB0.out b1; clear b1)
        | (refine wpList_storeS _ rfl (.tmp 6) (.tmp 28) 28 rfl (w.heap.size + 1) _ _ 28 rfl rfl hs1 (by kernel_rfl) rfl (by simp [Value.oneCell']) ?_; intro w3 k3 t3 _ _))
      exact bodyPost_ret (ret_s1 rfl rfl rfl k3 ⟨_, Try.underlying28⟩ (by kernel_rfl)) rfl ⟨by rw [HR.out]; rfl, t3.one_below hb1 (by omega)⟩
    · obtain ⟨a1, a2, a3⟩ := above_len HA.out
      obtain ⟨K, hK⟩ : ∃ K, K = (labs known.data.toList).length := ⟨_, rfl⟩
      obtain ⟨A, hA⟩ : ∃ A, A = (labs n.data.toList).length := ⟨_, rfl⟩
      have hKA : K ≤ A := by rw [hK, hA]; exact a3
      have hA127 : A ≤ 127 := by rw [hA]; exact few a2
      obtain ⟨D, hD⟩ : ∃ D : Int, D = max 1 ((A : Int) - K) := ⟨_, rfl⟩
      have hL : leftI X = D := by
        rw [hD, hA, hK, HX.out]; rfl
      have HCK : Hid (cnt known.data.toList = K) := by unfold Hid; rw [hK]; exact (enc_of a1).2.2.1
      have HCA : Hid (cnt n.data.toList = A) := by unfold Hid; rw [hA]; exact (enc_of a2).2.2.1
      have HKL : Hid (K = (labs known.data.toList).length) := hK
      have HAL : Hid (A = (labs n.data.toList).length) := hA
      have HNM : Hid (isName n.data.toList = true) := a2
      have HDE : Hid ((if (1 : Int) < (A : Int) - (K : Int) then (A : Int) - (K : Int) else 1) = D) := by unfold Hid; rw [hD]; split <;> omega
      have hD1 : 1 ≤ D ∧ D ≤ 127 ∧ (D = (A : Int) - K ∨ (D = 1 ∧ A = K)) := by rw [hD]; omega
      clear hK hA hD a1 a2 a3
      cases hm : mayS steps D c o with
      | false =>
        have HZ : Hid (sizeV steps D c o = .tuple #[.int .i64 0, .int .i64 1700]) := sizeV_no hm
        have HR : Hid (V = .tuple #[.agg #[.string ⟨#[]⟩, .int .i64 0], .int .i64 1700]) := by
          unfold Hid; rw [hV]; exact nextV_no (mayT_no (.inr (.inr (.inr (by rw [hL, HX.out]; exact hm)))))
        clear hV hm hL
        go_enter Try.func7, Try.ntmps7
        go_wp2_with (first
          | (go_at_call 10; go_must (refine (above_as _ _ true _ hkn hn HA.out).mono ?_); rintro e w1 ⟨rfl, b1⟩; obtain ⟨c0, c1, c3, c4, c5⟩ := tk_cells (HK0.out.below b1); have hk1 : Hid (Blk w1 w.heap.size #[.string n, .int .i64 t, .string cut, .string known, .int .i64 steps, .bool fb, .int .i64 server, .int .i64 tries] 32) := HK0.out.below b1; have hs1 : Hid (Blk w1 (w.heap.size + 1) #[.string ⟨#[]⟩, .int .i64 0] 28) := HS0.out.below b1; have hb1 : Hid (Below w.heap.size w w1) := next HB0.out b1; clear b1))
        go_quiet (first
          | (go_at_call_of 11 (#[Value.string known]); exact Calls.quiet_of_same (count_as known K _ hkn HCK.out))
          | (go_at_call_of 11 (#[Value.string n]); exact Calls.quiet_of_same (count_as n A _ hn HCA.out)))
        have kd : ∃ m, w1.drewN nq = w1.drewN m := ⟨_, rfl⟩
        have hk2 : Hid (Blk (w1.drewN nq) w.heap.size #[.string n, .int .i64 t, .string cut, .string known, .int .i64 steps, .bool fb, .int .i64 server, .int .i64 tries] 32) := hk1.out.drew kd
        have hs2 : Hid (Blk (w1.drewN nq) (w.heap.size + 1) #[.string ⟨#[]⟩, .int .i64 0] 28) := hs1.out.drew kd
        have hb2 : Hid (Below w.heap.size w (w1.drewN nq)) := next hb1.out (below_drew kd)
        clear kd hk1 hs1 hb1 c0 c1 c3 c4 c5
        revert hk2 hs2 hb2
        generalize w1.drewN nq = w2
        intro hk2 hs2 hb2
        obtain ⟨c0, c1, c3, c4, c5⟩ := tk_cells hk2.out
        go_wp2_with (first
          | (go_at_call 5; rw [HDE.out]; go_must (refine (size_as _ _ _ _ _ _ HZ.out).mono ?_); rintro e w3 ⟨rfl, b3⟩; obtain ⟨c0, c1, c3, c4, c5⟩ := tk_cells (hk2.out.below b3); have hs3 : Hid (Blk w3 (w.heap.size + 1) #[.string ⟨#[]⟩, .int .i64 0] 28) := hs2.out.below b3; have hb3 : Hid (Below w.heap.size w w3) := next hb2.out b3; clear b3 hs2 hk2 hb2)
          | (refine wpList_storeS _ rfl (.tmp 6) (.tmp 49) 28 rfl (w.heap.size + 1) _ _ 28 rfl rfl hs3.out (by kernel_rfl) rfl (by simp [Value.oneCell']) ?_; intro w5 k5 t5 _ _))
        exact bodyPost_ret (ret_s1 rfl rfl rfl k5 ⟨_, Try.underlying28⟩ (by kernel_rfl)) rfl ⟨by rw [HR.out]; rfl, t5.one_below hb3.out (by omega)⟩
      | true =>
        obtain ⟨Z, hZ⟩ : ∃ Z, Z = szI steps D c o := ⟨_, rfl⟩
        have hZ1 := szI_in (s := steps) (l := D) (c := c) (o := o) hD1.1
        rw [← hZ] at hZ1
        have HZ : Hid (sizeV steps D c o = .tuple #[.int .i64 Z, .int .i64 0]) := by unfold Hid; rw [hZ]; exact sizeV_yes hm
        have HYES : Hid (mayT X c o = true) := by
          unfold Hid
          refine mayT_yes (by rw [HX.out]; exact HA.out) (by rw [HX.out]; simpa using g1) (by rw [HX.out]; simpa using g2) ?_
          rw [hL, HX.out]; exact hm
        have HTOLD : Hid (toldN X c o = if fb = true ∨ (A : Int) ≤ K + Z then A else K + Z.toNat) := by
          unfold Hid toldN lN
          rw [hL, HX.out, hZ, HKL.out, HAL.out]
        have HTYPE : Hid (typeI X c o = if fb = true ∨ (A : Int) ≤ K + Z then t else 1) := by
          unfold Hid typeI lN
          rw [hL, HX.out, hZ, HKL.out, HAL.out]
        have HVV : Hid (V = .tuple #[stV (lastB n (toldN X c o)) (typeI X c o), .int .i64 0]) := by
          unfold Hid
          rw [hV, nextV_yes HYES.out]
          unfold toldB lastB
          rw [HX.out]
        clear hV hm hL hZ HYES
        obtain ⟨Y, rfl⟩ : ∃ Y : Nat, Z = (Y : Int) := ⟨Z.toNat, by omega⟩
        have hF : fb = true ∨ (fb = false ∧ decide ((A : Int) ≤ (K : Int) + (Y : Int)) = true) ∨ (fb = false ∧ decide ((A : Int) ≤ (K : Int) + (Y : Int)) = false) := by
          cases fb <;> simp <;> omega
        rcases hF with rfl | ⟨rfl, g3⟩ | ⟨rfl, g3⟩
        · have HTA : Hid (A ≤ (labs n.data.toList).length) := by unfold Hid; rw [← HAL.out]; exact Nat.le_refl _
          have HR : Hid (V = .tuple #[stV (lastB n A) t, .int .i64 0]) := by
            unfold Hid
            have h1 := HTOLD.out
            have h2 := HTYPE.out
            rw [if_pos (by simp)] at h1 h2
            rw [HVV.out, h1, h2]
          clear HTOLD HTYPE HVV
          go_enter Try.func7, Try.ntmps7
          go_wp2_with (first
            | (go_at_call 10; go_must (refine (above_as _ _ true _ hkn hn HA.out).mono ?_); rintro e w1 ⟨rfl, b1⟩; obtain ⟨c0, c1, c3, c4, c5⟩ := tk_cells (HK0.out.below b1); have hk1 : Hid (Blk w1 w.heap.size #[.string n, .int .i64 t, .string cut, .string known, .int .i64 steps, .bool true, .int .i64 server, .int .i64 tries] 32) := HK0.out.below b1; have hs1 : Hid (Blk w1 (w.heap.size + 1) #[.string ⟨#[]⟩, .int .i64 0] 28) := HS0.out.below b1; have hb1 : Hid (Below w.heap.size w w1) := next HB0.out b1; clear b1))
          go_quiet (first
            | (go_at_call_of 11 (#[Value.string known]); exact Calls.quiet_of_same (count_as known K _ hkn HCK.out))
            | (go_at_call_of 11 (#[Value.string n]); exact Calls.quiet_of_same (count_as n A _ hn HCA.out)))
          have kd : ∃ m, w1.drewN nq = w1.drewN m := ⟨_, rfl⟩
          have hk2 : Hid (Blk (w1.drewN nq) w.heap.size #[.string n, .int .i64 t, .string cut, .string known, .int .i64 steps, .bool true, .int .i64 server, .int .i64 tries] 32) := hk1.out.drew kd
          have hs2 : Hid (Blk (w1.drewN nq) (w.heap.size + 1) #[.string ⟨#[]⟩, .int .i64 0] 28) := hs1.out.drew kd
          have hb2 : Hid (Below w.heap.size w (w1.drewN nq)) := next hb1.out (below_drew kd)
          clear kd hk1 hs1 hb1 c0 c1 c3 c4 c5
          revert hk2 hs2 hb2
          generalize w1.drewN nq = w2
          intro hk2 hs2 hb2
          obtain ⟨c0, c1, c3, c4, c5⟩ := tk_cells hk2.out
          go_wp2_with (first
            | (go_at_call 5; rw [HDE.out]; go_must (refine (size_as _ _ _ _ _ _ HZ.out).mono ?_); rintro e w3 ⟨rfl, b3⟩; obtain ⟨c0, c1, c3, c4, c5⟩ := tk_cells (hk2.out.below b3); have hs3 : Hid (Blk w3 (w.heap.size + 1) #[.string ⟨#[]⟩, .int .i64 0] 28) := hs2.out.below b3; have hb3 : Hid (Below w.heap.size w w3) := next hb2.out b3; clear b3 hs2 hk2 hb2)
            | (go_at_call 12; go_must (refine (ask_any n A _ _ HNM.out HTA.out).mono ?_); rintro e w4 ⟨rfl, b4⟩; have hs4 : Hid (Blk w4 (w.heap.size + 1) #[.string ⟨#[]⟩, .int .i64 0] 28) := hs3.out.below b4; have hb4 : Hid (Below w.heap.size w w4) := next hb3.out b4; clear b4 hs3 hb3)
            | (refine wpList_storeS _ rfl (.tmp 6) (.tmp 65) 28 rfl (w.heap.size + 1) _ _ 28 rfl rfl hs4.out (by kernel_rfl) rfl (by simp [Value.oneCell']) ?_; intro w5 k5 t5 _ _))
          have q1 : Below w.heap.size w w5 := t5.one_below hb4.out (by omega)
          refine bodyPost_ret (v := .tuple #[.agg #[.string (lastB n A), .int .i64 t], .int .i64 0]) (ret_s1 rfl rfl rfl k5 ⟨_, Try.underlying28⟩ (by kernel_rfl)) rfl ⟨?_, q1⟩
          rw [HR.out]
          rfl
        · have HTA : Hid (A ≤ (labs n.data.toList).length) := by unfold Hid; rw [← HAL.out]; exact Nat.le_refl _
          have HR : Hid (V = .tuple #[stV (lastB n A) t, .int .i64 0]) := by
            unfold Hid
            have h1 := HTOLD.out
            have h2 := HTYPE.out
            rw [if_pos (by simp at g3; right; omega)] at h1 h2
            rw [HVV.out, h1, h2]
          clear HTOLD HTYPE HVV
          go_enter Try.func7, Try.ntmps7
          go_wp2_with (first
            | (go_at_call 10; go_must (refine (above_as _ _ true _ hkn hn HA.out).mono ?_); rintro e w1 ⟨rfl, b1⟩; obtain ⟨c0, c1, c3, c4, c5⟩ := tk_cells (HK0.out.below b1); have hk1 : Hid (Blk w1 w.heap.size #[.string n, .int .i64 t, .string cut, .string known, .int .i64 steps, .bool false, .int .i64 server, .int .i64 tries] 32) := HK0.out.below b1; have hs1 : Hid (Blk w1 (w.heap.size + 1) #[.string ⟨#[]⟩, .int .i64 0] 28) := HS0.out.below b1; have hb1 : Hid (Below w.heap.size w w1) := next HB0.out b1; clear b1))
          go_quiet (first
            | (go_at_call_of 11 (#[Value.string known]); exact Calls.quiet_of_same (count_as known K _ hkn HCK.out))
            | (go_at_call_of 11 (#[Value.string n]); exact Calls.quiet_of_same (count_as n A _ hn HCA.out)))
          have kd : ∃ m, w1.drewN nq = w1.drewN m := ⟨_, rfl⟩
          have hk2 : Hid (Blk (w1.drewN nq) w.heap.size #[.string n, .int .i64 t, .string cut, .string known, .int .i64 steps, .bool false, .int .i64 server, .int .i64 tries] 32) := hk1.out.drew kd
          have hs2 : Hid (Blk (w1.drewN nq) (w.heap.size + 1) #[.string ⟨#[]⟩, .int .i64 0] 28) := hs1.out.drew kd
          have hb2 : Hid (Below w.heap.size w (w1.drewN nq)) := next hb1.out (below_drew kd)
          clear kd hk1 hs1 hb1 c0 c1 c3 c4 c5
          revert hk2 hs2 hb2
          generalize w1.drewN nq = w2
          intro hk2 hs2 hb2
          obtain ⟨c0, c1, c3, c4, c5⟩ := tk_cells hk2.out
          go_wp2_with (first
            | (go_at_call 5; rw [HDE.out]; go_must (refine (size_as _ _ _ _ _ _ HZ.out).mono ?_); rintro e w3 ⟨rfl, b3⟩; obtain ⟨c0, c1, c3, c4, c5⟩ := tk_cells (hk2.out.below b3); have hs3 : Hid (Blk w3 (w.heap.size + 1) #[.string ⟨#[]⟩, .int .i64 0] 28) := hs2.out.below b3; have hb3 : Hid (Below w.heap.size w w3) := next hb2.out b3; clear b3 hs2 hk2 hb2)
            | (go_at_call 12; go_must (refine (ask_any n A _ _ HNM.out HTA.out).mono ?_); rintro e w4 ⟨rfl, b4⟩; have hs4 : Hid (Blk w4 (w.heap.size + 1) #[.string ⟨#[]⟩, .int .i64 0] 28) := hs3.out.below b4; have hb4 : Hid (Below w.heap.size w w4) := next hb3.out b4; clear b4 hs3 hb3)
            | (refine wpList_storeS _ rfl (.tmp 6) (.tmp 65) 28 rfl (w.heap.size + 1) _ _ 28 rfl rfl hs4.out (by kernel_rfl) rfl (by simp [Value.oneCell']) ?_; intro w5 k5 t5 _ _))
          have q1 : Below w.heap.size w w5 := t5.one_below hb4.out (by omega)
          refine bodyPost_ret (v := .tuple #[.agg #[.string (lastB n A), .int .i64 t], .int .i64 0]) (ret_s1 rfl rfl rfl k5 ⟨_, Try.underlying28⟩ (by kernel_rfl)) rfl ⟨?_, q1⟩
          rw [HR.out]
          rfl
        · have HTA : Hid (K + Y ≤ (labs n.data.toList).length) := by unfold Hid; rw [← HAL.out]; simp at g3; omega
          have HR : Hid (V = .tuple #[stV (lastB n (K + Y)) 1, .int .i64 0]) := by
            unfold Hid
            have h1 := HTOLD.out
            have h2 := HTYPE.out
            rw [if_neg (by simp at g3 ⊢; omega)] at h1 h2
            rw [HVV.out, h1, h2]
            simp
          clear HTOLD HTYPE HVV
          have hKY : K + Y ≤ 200 := by simp at g3; omega
          go_enter Try.func7, Try.ntmps7
          go_wp2_with (first
            | (go_at_call 10; go_must (refine (above_as _ _ true _ hkn hn HA.out).mono ?_); rintro e w1 ⟨rfl, b1⟩; obtain ⟨c0, c1, c3, c4, c5⟩ := tk_cells (HK0.out.below b1); have hk1 : Hid (Blk w1 w.heap.size #[.string n, .int .i64 t, .string cut, .string known, .int .i64 steps, .bool false, .int .i64 server, .int .i64 tries] 32) := HK0.out.below b1; have hs1 : Hid (Blk w1 (w.heap.size + 1) #[.string ⟨#[]⟩, .int .i64 0] 28) := HS0.out.below b1; have hb1 : Hid (Below w.heap.size w w1) := next HB0.out b1; clear b1))
          go_quiet (first
            | (go_at_call_of 11 (#[Value.string known]); exact Calls.quiet_of_same (count_as known K _ hkn HCK.out))
            | (go_at_call_of 11 (#[Value.string n]); exact Calls.quiet_of_same (count_as n A _ hn HCA.out)))
          have kd : ∃ m, w1.drewN nq = w1.drewN m := ⟨_, rfl⟩
          have hk2 : Hid (Blk (w1.drewN nq) w.heap.size #[.string n, .int .i64 t, .string cut, .string known, .int .i64 steps, .bool false, .int .i64 server, .int .i64 tries] 32) := hk1.out.drew kd
          have hs2 : Hid (Blk (w1.drewN nq) (w.heap.size + 1) #[.string ⟨#[]⟩, .int .i64 0] 28) := hs1.out.drew kd
          have hb2 : Hid (Below w.heap.size w (w1.drewN nq)) := next hb1.out (below_drew kd)
          clear kd hk1 hs1 hb1 c0 c1 c3 c4 c5
          revert hk2 hs2 hb2
          generalize w1.drewN nq = w2
          intro hk2 hs2 hb2
          obtain ⟨c0, c1, c3, c4, c5⟩ := tk_cells hk2.out
          go_wp2_with (first
            | (go_at_call 5; rw [HDE.out]; go_must (refine (size_as _ _ _ _ _ _ HZ.out).mono ?_); rintro e w3 ⟨rfl, b3⟩; obtain ⟨c0, c1, c3, c4, c5⟩ := tk_cells (hk2.out.below b3); have hs3 : Hid (Blk w3 (w.heap.size + 1) #[.string ⟨#[]⟩, .int .i64 0] 28) := hs2.out.below b3; have hb3 : Hid (Below w.heap.size w w3) := next hb2.out b3; clear b3 hs2 hk2 hb2)
            | (go_at_call 12; go_must (refine (ask_any n (K + Y) _ _ HNM.out HTA.out).mono ?_); rintro e w4 ⟨rfl, b4⟩; have hs4 : Hid (Blk w4 (w.heap.size + 1) #[.string ⟨#[]⟩, .int .i64 0] 28) := hs3.out.below b4; have hb4 : Hid (Below w.heap.size w w4) := next hb3.out b4; clear b4 hs3 hb3)
            | (refine wpList_storeS _ rfl (.tmp 6) (.tmp 71) 28 rfl (w.heap.size + 1) _ _ 28 rfl rfl hs4.out (by kernel_rfl) rfl (by simp [Value.oneCell']) ?_; intro w5 k5 t5 _ _))
          have q1 : Below w.heap.size w w5 := t5.one_below hb4.out (by omega)
          refine bodyPost_ret (v := .tuple #[.agg #[.string (lastB n (K + Y)), .int .i64 1], .int .i64 0]) (ret_s1 rfl rfl rfl k5 ⟨_, Try.underlying28⟩ (by kernel_rfl)) rfl ⟨?_, q1⟩
          rw [HR.out]
          rfl

end Qm
end Go.Proofs.Ytnjlfbcfnmdkkab
