/- gather and Compare once more: what they draw. -/
import Derived.Test.YtphhljbeaklikaaXP2
import Derived.Test.YtphhljbeaklikaaXP1
import Derived.Lib.AppendStr
namespace Go.Proofs.Ytphhljbeaklikaa
open Go.RowKit
open Pl

theorem drawn_drew {w w' : World} (h : ∃ m, w' = w.drewN m) : w.drawn ≤ w'.drawn := by
  obtain ⟨m, rfl⟩ := h
  exact Nat.le_add_right _ _
/-- All the places into a block. -/
theorem wpList_storePlD (w : World) {ops : Array Oper} {rest : List Oper} {o : Oper} {a : Act} {Q : Exit → Act → World → Prop} (hgd : o.guard = none) (x y : Operand)
    (ho : o.op = .store 90 x y) (g : Nat) (Z C : Array Value) (hx : a.eval x = .pointer (some ⟨g, 0, none⟩)) (hy : a.eval y = .agg C) (hg : w.heap[g]? = some (.cells Z 90 (0, 0))) (hZ : Z.size = 129) (hC : C.size = 129) (h1 : C.all (·.oneCell') = true)
    (h : ∀ w', w'.heap[g]? = some (.cells C 90 (0, 0)) → w.grownBy w' (some g) → w'.heap.size = w.heap.size → w'.drawn = w.drawn → wpList Try.prog ops Q rest (a.put o.dst undef) w') : wpList Try.prog ops Q (o :: rest) a w := by
  refine wpList_plain hgd fun K hK => ?_
  have hr := store_pl hg hZ hC h1
  unfold Oper.wp execOp
  simp only [ho, hx, hy, Sem.run_bind, hr, Result.andThen_ok, Sem.run_pure]
  exact hK _ _ (h _ (setRow_heap _ _ Z _ 90 (0, 0) hg) ⟨rfl, rfl, rfl, by simp, fun k _ hne => setRow_other _ _ _ _ (fun e => hne (by rw [e]))⟩ (by simp) rfl)

set_option maxRecDepth 20000 in
set_option maxHeartbeats 1000000 in
theorem gather_d (s : ByteArray) (w : World) (h : isName s.data.toList = true) :
    Calls Try.prog 53 #[.string s] w fun e w' => ∃ C : Array Value, e = .returned (.agg C) ∧ Below w.heap.size w w' ∧ w.drawn ≤ w'.drawn ∧ Fill (labs s.data.toList) (labs s.data.toList).length C := by
  obtain ⟨e1, e2, e3, e4⟩ := enc_of h
  have hfew := labs_few e2
  rw [← e1] at hfew
  have hl := data_len s
  obtain ⟨ls, hls⟩ : ∃ ls, ls = labs s.data.toList := ⟨_, rfl⟩
  rw [← hls] at e1 e2 e3 hfew ⊢
  obtain ⟨hz, hsz⟩ := zero_of_info info47
  have HSZ : Hid ((Try.prog.info? 90).map (·.size) = some 129) := hsz
  obtain ⟨Z, hZ⟩ : ∃ Z, Z = Z47 := ⟨_, rfl⟩
  rw [← hZ] at hz
  have HZ : Hid (Z = Z47) := hZ
  have HE : Hid (s.data.toList = enc ls) := e1
  have HG : Hid (GoodL ls) := e2
  have hn : ls.length ≤ 127 := by omega
  have hs : s.size ≤ 255 := by omega
  clear hZ hsz e1 e2 e3 e4 hls hfew h
  go_enter Try.func53, Try.ntmps53
  go_wp2
  go_loopw [4] (fun i wr => ∃ (c P : Nat) (C : Array Value), c ≤ ls.length ∧ P < s.size ∧ i = .int .i64 P ∧ wr = (w.alloc (.cells Z 90)).alloc (.cells C 90) ∧ Hid (P = pos ls c) ∧ Hid (Fill ls c C)) (fun i _ => s.size - (intOf i).toNat)
  case atStart => exact ⟨0, 0, Z, Nat.zero_le _, by have := pos_lt ls 0; rw [← HE.out, pos_zero] at this; omega, rfl, rfl, (pos_zero ls).symm, by unfold Hid; rw [HZ.out]; exact fill_start ls⟩
  case round =>
    obtain ⟨c, P, C, hc, hPs, rfl, rfl, hP, hF⟩ := hrel
    have hPl : P < s.data.toList.length := by omega
    by_cases hcl : c < ls.length
    · have hat : s[P].toNat = ls[c].length := by
        have h1 := pos_at ls c hcl
        rw [← len_byte (HG.out ls[c] (List.getElem_mem _)).2, ← h1]
        congr 1
        have h2 := HE.out
        have h3 := hP.out
        subst h3
        show s.data.toList[pos ls c] = _
        congr 1
      have h1 := HG.out ls[c] (List.getElem_mem _)
      have hnz : ((s[P].toNat : Int) != 0) = true := by simp; omega
      have h63 : s[P].toNat ≤ 63 := by omega
      have hnext : P + (1 + s[P].toNat) = pos ls (c + 1) := by rw [pos_succ ls c hcl, ← hP.out, hat]; omega
      have hlt : P + (1 + s[P].toNat) < s.size := by have := pos_lt ls (c + 1); rw [← HE.out] at this; omega
      have hcell : ((w.alloc (.cells Z 90)).alloc (.cells C 90)).cell? ⟨w.heap.size + 1, 128, none⟩ = some (.int .i64 (c : Int)) := by
        have := World.cell?_alloc_mark (w.alloc (.cells Z 90)) C 90 (0, 0) 128
        rw [hF.out.2.1] at this
        simpa using this
      have hcell2 : ((w.alloc (.cells Z 90)).alloc (.cells (C.setIfInBounds 128 (.int .i64 ((c : Int) + 1))) 90)).cell? ⟨w.heap.size + 1, 128, none⟩ = some (.int .i64 ((c : Int) + 1)) := by
        have := World.cell?_alloc_mark (w.alloc (.cells Z 90)) (C.setIfInBounds 128 (.int .i64 ((c : Int) + 1))) 90 (0, 0) 128
        rw [Array.getElem?_setIfInBounds_self_of_lt (by rw [hF.out.1]; omega)] at this
        simpa using this
      obtain ⟨x, hx⟩ : ∃ x, (C.setIfInBounds 128 (.int .i64 ((c : Int) + 1)))[c + 1]? = some x := ⟨_, Array.getElem?_eq_getElem (by simp [hF.out.1]; omega)⟩
      have HF2 : Hid (Fill ls (c + 1) ((C.setIfInBounds 128 (.int .i64 ((c : Int) + 1))).setIfInBounds (c + 1) (.int .u8 ((P : Int) + (1 + (s[P].toNat : Int)))))) := by
        have := fill_next hF.out (by omega : c < 127)
        rw [← hnext] at this
        unfold Hid
        simpa using this
      have HN : Hid (P + (1 + s[P].toNat) = pos ls (c + 1)) := hnext
      clear hnext hat h1
      go_wp2
      go_roundw
      case rel => exact ⟨c + 1, P + (1 + s[P].toNat), _, by omega, hlt, by go_num, rfl, HN, HF2⟩
      case measure => simp [intOf]; omega
    · have hat : s[P].toNat = 0 := by
        have h1 := pos_end ls c (by omega)
        have h2 := HE.out
        have h3 := hP.out
        subst h3
        have h4 : s[pos ls c] = 0 := by
          rw [← h1]
          show s.data.toList[pos ls c] = _
          congr 1
        rw [h4]; rfl
      have hnz : ((s[P].toNat : Int) != 0) = false := by simp [hat]
      have hce : c = ls.length := by omega
      have HF : Hid (Fill ls ls.length C) := by rw [← hce]; exact hF
      have hg1 : ((w.alloc (.cells Z 90)).alloc (.cells C 90)).heap[w.heap.size + 1]? = some (.cells C 90 (0, 0)) := by
        have := heap_alloc_last (w.alloc (.cells Z 90)) (.cells C 90)
        simpa using this
      have hg0 : ((w.alloc (.cells Z 90)).alloc (.cells C 90)).heap[w.heap.size]? = some (.cells Z 90 (0, 0)) := by
        rw [Below.heap_alloc (w.alloc (.cells Z 90)) _ w.heap.size (by simp)]
        exact heap_alloc_last w _
      have hZs : Z.size = 129 := by rw [HZ.out]; exact (fill_start ls).1
      clear hat
      have hb1 : Below w.heap.size w ((w.alloc (.cells Z 90)).alloc (.cells C 90)) := lay (lay (Below.refl _ _) _) _
      go_wp2_with (first
        | (refine wpList_loadPl _ rfl (.tmp 3) rfl _ C rfl hg1 HF.out.1 ?_)
        | (refine wpList_storePlD _ rfl (.tmp 2) (.tmp 26) rfl _ Z C rfl rfl hg0 hZs HF.out.1 HF.out.2.2.2 ?_; intro w3 h1 h2 h3 h4))
      have hbel : Below w.heap.size w w3 := hb1.trans ⟨h2.os, h2.tape, h2.output, h2.size, fun k hk => h2.block k (by simp; omega) (by intro e; have := Option.some.inj e; omega)⟩
      have hld2 : (loadVar 90 ⟨w.heap.size, 0, none⟩).run Try.prog w3 = .ok (.agg C) w3 :=
        run_loadVar_row _ _ 90 90 C (0, 0) _ h1 Try.underlying90 rfl (by rw [HF.out.1]; exact (zero_of_info info47).2)
      refine bodyPost_ret (v := .agg C) ?_ rfl ⟨C, rfl, hbel, Nat.le_of_eq h4.symm, HF.out⟩
      rw [results_cell rfl]
      exact hld2

set_option maxRecDepth 20000 in
set_option maxHeartbeats 2000000 in
theorem compare_coreD (a b A B : ByteArray) (w : World) (hA : isName A.data.toList = true) (hB : isName B.data.toList = true)
    (hoa : ∀ u : World, Calls Try.prog 52 #[.string a] u fun e w' => e = .returned (.string A) ∧ w' = u) (hob : ∀ u : World, Calls Try.prog 52 #[.string b] u fun e w' => e = .returned (.string B) ∧ w' = u) :
    Calls Try.prog 44 #[.string a, .string b] w fun e w' => e = .returned (.int .i64 (cmpN A.data.toList B.data.toList)) ∧ Below w.heap.size w w' ∧ w.drawn ≤ w'.drawn := by
  have HOA : Hid (∀ u : World, Calls Try.prog 52 #[.string a] u fun e w' => e = .returned (.string A) ∧ w' = u) := hoa
  have HOB : Hid (∀ u : World, Calls Try.prog 52 #[.string b] u fun e w' => e = .returned (.string B) ∧ w' = u) := hob
  clear hoa hob
  obtain ⟨Z, hz, hZs⟩ := zero47
  obtain ⟨n, hn⟩ : ∃ n, n = (labs A.data.toList).length := ⟨_, rfl⟩
  obtain ⟨m, hm⟩ : ∃ m, m = (labs B.data.toList).length := ⟨_, rfl⟩
  have HN : Hid (n = (labs A.data.toList).length) := hn
  have HM : Hid (m = (labs B.data.toList).length) := hm
  have h127 : n ≤ 127 := by rw [hn]; exact few hA
  have h127m : m ≤ 127 := by rw [hm]; exact few hB
  obtain ⟨M, hmin⟩ : ∃ M : Nat, (if m < n then (m : Int) else (n : Int)) = (M : Int) := by
    by_cases h : m < n
    · exact ⟨m, by rw [if_pos h]⟩
    · exact ⟨n, by rw [if_neg h]⟩
  have HMM : Hid ((M = n ∨ M = m) ∧ M ≤ n ∧ M ≤ m) := by
    unfold Hid
    split at hmin <;> omega
  have hM127 : M ≤ 127 := by have := HMM.out; omega
  have t1 : True := trivial
  have t2 : True := trivial
  have t3 : True := trivial
  have t4 : True := trivial
  clear hn hm
  go_enter Try.func44, Try.ntmps44
  go_wp2_with (first
    | (go_at_call 52; have _t := t1; go_must (refine (HOA.out _).mono ?_); rintro e w' ⟨rfl, hw⟩; obtain rfl := hw.symm; clear t1)
    | (go_at_call 52; have _t := t2; go_must (refine (HOB.out _).mono ?_); rintro e w' ⟨rfl, hw⟩; obtain rfl := hw.symm; clear t2)
    | (go_at_call 53; have _t := t3; refine (gather_d _ _ hA).mono ?_; rintro e w1 ⟨C, rfl, hbel1, hdw1, hF⟩; have HF : Hid (Fill (labs A.data.toList) (labs A.data.toList).length C) := hF; clear hF t3)
    | (go_at_call 53; have _t := t4; refine (gather_d _ _ hB).mono ?_; rintro e w2 ⟨D, rfl, hbel2, hdw2, hG⟩; have HG : Hid (Fill (labs B.data.toList) (labs B.data.toList).length D) := hG; clear hG t4)
    | (refine wpList_storePlD _ rfl (.tmp 5) (.tmp 14) rfl w2.heap.size Z C rfl rfl (two_first _ _) hZs HF.out.1 HF.out.all ?_; intro w3 h1 h2 h3 h4; go_must (refine wpList_storePlD _ rfl (.tmp 6) (.tmp 16) rfl (w2.heap.size + 1) Z D rfl rfl (two_left h2) hZs HG.out.1 HG.out.all ?_); intro w4 k1 k2 k3 k4; have hst := two_stored (next hbel1 hbel2) h1 h2 h3 k2; have HPA : Hid (PlAt w4 w2.heap.size (labs A.data.toList)) := fill_at hst.1 HF.out; have HPB : Hid (PlAt w4 (w2.heap.size + 1) (labs B.data.toList)) := fill_at k1 HG.out; have HBEL : Hid (Below w.heap.size w w4) := hst.2; have HDW : Hid (w.drawn ≤ w4.drawn) := Nat.le_trans hdw1 (Nat.le_trans hdw2 (Nat.le_of_eq (k4.trans h4).symm)); clear hst k1 k2 k3 k4 h1 h2 h3 h4))
  clear hbel1 hbel2 hdw1 hdw2 hz hZs HF HG
  go_loopw [7] (fun i wr => ∃ (k : Nat), 1 ≤ k ∧ k ≤ M + 1 ∧ i = .int .i64 k ∧ Hid (∃ m, wr = w4.drewN m) ∧ Hid (cmpN A.data.toList B.data.toList = lexG (lexG cB) ((fl A.data.toList).drop (k - 1)) ((fl B.data.toList).drop (k - 1)))) (fun i _ => M + 1 - (intOf i).toNat)
  case atStart => exact ⟨1, Nat.le_refl _, by omega, rfl, ⟨0, rfl⟩, cmp_start _ _⟩
  case round =>
    obtain ⟨k, hk1, hkM, rfl, hdr, hc⟩ := hrel
    have hca : wr.cell? ⟨w2.heap.size, 128, none⟩ = some (.int .i64 (n : Int)) := by rw [drew_cell hdr.out, HN.out]; exact HPA.out.1
    have hcb : wr.cell? ⟨w2.heap.size + 1, 128, none⟩ = some (.int .i64 (m : Int)) := by rw [drew_cell hdr.out, HM.out]; exact HPB.out.1
    by_cases hkl : k ≤ M
    · have hkl2 : (k : Int) ≤ (M : Int) := by omega
      have hkn : k ≤ n := by have := HMM.out; omega
      have hkm : k ≤ m := by have := HMM.out; omega
      obtain ⟨ta, hta, htas, hla⟩ := label_of A w4 w2.heap.size n k hA HN.out hk1 hkn HPA.out
      obtain ⟨tb, htb, htbs, hlb⟩ := label_of B w4 (w2.heap.size + 1) m k hB HM.out hk1 hkm HPB.out
      have HLA : Hid (∀ u : World, (∃ m, u = w4.drewN m) → Calls Try.prog 55 #[.pointer (some ⟨w2.heap.size, 0, none⟩), .string A, .int .i64 (k : Int)] u fun e w' => e = .returned (.string ta) ∧ ∃ m, w' = u.drewN m) := hla
      have HLB : Hid (∀ u : World, (∃ m, u = w4.drewN m) → Calls Try.prog 55 #[.pointer (some ⟨w2.heap.size + 1, 0, none⟩), .string B, .int .i64 (k : Int)] u fun e w' => e = .returned (.string tb) ∧ ∃ m, w' = u.drewN m) := hlb
      clear hla hlb
      have t1 : True := trivial
      have t2 : True := trivial
      by_cases hz : ord ta.data.toList tb.data.toList = 0
      · have HX : Hid (cmpN A.data.toList B.data.toList = lexG (lexG cB) ((fl A.data.toList).drop (k + 1 - 1)) ((fl B.data.toList).drop (k + 1 - 1))) := cmp_next hc.out hk1 (by have := HN.out; omega) (by have := HM.out; omega) (by rw [← hta, ← htb]; exact hz)
        clear hta htb
        go_wp2_with (first
          | (go_at_call 55; have _t := t1; go_must (refine (HLA.out _ hdr.out).mono ?_); rintro e w5 ⟨rfl, hd5⟩; clear t1; have HD5 := drew_trans hdr.out hd5; clear hd5; have HE5 : Hid (∃ m, w5 = w4.drewN m) := HD5; clear HD5)
          | (go_at_call 55; have _t := t2; go_must (refine (HLB.out _ HE5.out).mono ?_); rintro e w6 ⟨rfl, hd6⟩; clear t2; have HD6 := drew_trans HE5.out hd6; clear hd6; have HE6 : Hid (∃ m, w6 = w4.drewN m) := HD6; clear HD6)
          | (go_at_call 54; go_must (refine (order_any _ _ _ htas htbs).mono ?_); rintro e w7 ⟨rfl, hd7⟩; have HD7 := drew_trans HE6.out hd7; clear hd7; have HE7 : Hid (∃ m, w7 = w4.drewN m) := HD7; clear HD7))
        go_roundw
        case rel => exact ⟨k + 1, by omega, by omega, by go_num, HE7, HX⟩
        case measure => simp [intOf]; omega
      · have HX : Hid (ord ta.data.toList tb.data.toList = cmpN A.data.toList B.data.toList) := by
          have := cmp_here hc.out hk1 (by have := HN.out; omega) (by have := HM.out; omega) (by rw [← hta, ← htb]; exact hz)
          rw [← hta, ← htb] at this
          exact this
        have hz2 : (ord ta.data.toList tb.data.toList != 0) = true := by simpa using hz
        clear hta htb hz
        go_wp2_with (first
          | (go_at_call 55; have _t := t1; go_must (refine (HLA.out _ hdr.out).mono ?_); rintro e w5 ⟨rfl, hd5⟩; clear t1; have HD5 := drew_trans hdr.out hd5; clear hd5; have HE5 : Hid (∃ m, w5 = w4.drewN m) := HD5; clear HD5)
          | (go_at_call 55; have _t := t2; go_must (refine (HLB.out _ HE5.out).mono ?_); rintro e w6 ⟨rfl, hd6⟩; clear t2; have HD6 := drew_trans HE5.out hd6; clear hd6; have HE6 : Hid (∃ m, w6 = w4.drewN m) := HD6; clear HD6)
          | (go_at_call 54; go_must (refine (order_any _ _ _ htas htbs).mono ?_); rintro e w7 ⟨rfl, hd7⟩; have HD7 := drew_trans HE6.out hd7; clear hd7; have HE7 : Hid (∃ m, w7 = w4.drewN m) := HD7; clear HD7))
        go_ret
        exact ⟨ret_int HX.out, next HBEL.out (below_drew HE7.out), Nat.le_trans HDW.out (drawn_drew HE7.out)⟩
    · have HX : Hid (sgn (n : Int) (m : Int) = cmpN A.data.toList B.data.toList) := by
        unfold Hid
        rw [HN.out, HM.out]
        exact cmp_end hc.out (by have := HMM.out; have := HN.out; have := HM.out; omega) (by have := HMM.out; have := HN.out; omega) (by have := HMM.out; have := HM.out; omega)
      have hkl2 : ¬ (k : Int) ≤ (M : Int) := by omega
      go_wp2_with (go_at_call 45; go_must (refine (cmpI_any _ _ _).mono ?_); rintro e w' ⟨rfl, hw⟩; obtain rfl := hw.symm)
      go_ret
      exact ⟨ret_int HX.out, next HBEL.out (below_drew hdr.out), Nat.le_trans HDW.out (drawn_drew hdr.out)⟩

theorem compare_d (a b : ByteArray) (w : World) (ha : a.size ≤ maxLen) (hb : b.size ≤ maxLen) :
    Calls Try.prog 44 #[.string a, .string b] w fun e w' => e = .returned (.int .i64 (cmpN a.data.toList b.data.toList)) ∧ Below w.heap.size w w' ∧ w.drawn ≤ w'.drawn := by
  have key : ∀ s : ByteArray, s.size ≤ maxLen → ∃ S : ByteArray, S.data.toList = orR s.data.toList ∧ ∀ u : World, Calls Try.prog 52 #[.string s] u fun e w' => e = .returned (.string S) ∧ w' = u := by
    intro s hs
    cases h : isName s.data.toList with
    | true => exact ⟨s, by unfold orR; rw [if_pos h], fun u => orRoot_yes s u hs h⟩
    | false => exact ⟨⟨#[0]⟩, by unfold orR; rw [if_neg (by rw [h]; simp)], fun u => orRoot_no s u hs h⟩
  obtain ⟨A, eA, hA⟩ := key a ha
  obtain ⟨B, eB, hB⟩ := key b hb
  have := compare_coreD a b A B w (by rw [eA]; exact orR_name _) (by rw [eB]; exact orR_name _) hA hB
  rw [eA, eB, orR_cmp] at this
  exact this

end Go.Proofs.Ytphhljbeaklikaa

/- Rules that the order of names and what is above what keep: plain facts on bytes, with no word of the program. -/
namespace Go.Proofs.Ytphhljbeaklikaa.Pl

theorem cmp_three (a b : List UInt8) : -1 ≤ cmpN a b ∧ cmpN a b ≤ 1 := by
  rcases cmp_ord.three (fl a) (fl b) with h | h | h <;> (unfold cmpN; omega)
theorem cmp_anti (a b : List UInt8) : cmpN b a = - cmpN a b := cmp_ord.anti _ _
theorem cmp_trans {a b c : List UInt8} (h1 : cmpN a b ≤ 0) (h2 : cmpN b c ≤ 0) : cmpN a c ≤ 0 := cmp_ord.trans _ _ _ h1 h2
theorem cmp_self (a : List UInt8) : cmpN a a = 0 := (cmp_zero a a).2 rfl
theorem same_cmp {a b : List UInt8} (ha : isName a = true) (hb : isName b = true) : sameB a b = (cmpN a b == 0) := by
  rw [Bool.eq_iff_iff, same_iff]
  simp [ha, hb, cmp_zero]
theorem above_root {a : List UInt8} (ha : isName a = true) : aboveB [0] a = true := by
  rw [above_iff]
  refine ⟨root_name, ha, ?_⟩
  unfold fl
  rw [root_labs]
  exact List.nil_prefix
theorem same_fold {a : List UInt8} (ha : isName a = true) : sameB a (foldL a) = true := by
  rw [same_iff]
  exact ⟨ha, by rw [name_fold]; exact ha, (fl_fold a).symm⟩
theorem above_trans {a b c : List UInt8} (h1 : aboveB a b = true) (h2 : aboveB b c = true) : aboveB a c = true := by
  rw [above_iff] at *
  exact ⟨h1.1, h2.2.1, h1.2.2.trans h2.2.2⟩
theorem above_self {a : List UInt8} (ha : isName a = true) : aboveB a a = true := by
  rw [above_iff]; exact ⟨ha, ha, List.prefix_refl _⟩

/-- A label ahead of a name. -/
theorem child_some {x l t : List UInt8} (h : childR x l = some t) : isName l = true ∧ isName t = true ∧ labs t = x :: labs l ∧ t.length = 1 + x.length + l.length ∧ 1 ≤ x.length ∧ x.length ≤ 63 ∧ t.length ≤ 255 := by
  unfold childR at h
  split at h
  · rename_i hc
    obtain ⟨h1, h2, h3, h4⟩ := hc
    have ht := (Option.some.inj h).symm
    obtain ⟨e1, e2, e3, e4⟩ := enc_of h3
    have e5 : t = enc (x :: labs l) := by rw [ht, enc_cons, ← e1]
    have hg : GoodL (x :: labs l) := by
      intro y hy
      rcases List.mem_cons.1 hy with rfl | hy
      · exact ⟨h1, h2⟩
      · exact e2 y hy
    have hlen : t.length = 1 + x.length + l.length := by rw [ht]; simp; omega
    have := name_enc hg (by rw [← e5, hlen]; exact h4)
    rw [← e5] at this
    exact ⟨h3, this.1, this.2.2, hlen, h1, h2, by omega⟩
  · simp at h

theorem child_par {x l t : List UInt8} (h : childR x l = some t) : parR t = some l := by
  obtain ⟨h1, h2, h3, _⟩ := child_some h
  unfold parR
  rw [if_pos ⟨h2, by rw [h3]; simp⟩, h3]
  simp
  exact (enc_of h1).1.symm
theorem child_fl {x l t : List UInt8} (h : childR x l = some t) : fl t = fl l ++ [foldL x] := by
  obtain ⟨_, _, h3, _⟩ := child_some h
  unfold fl
  rw [h3]; simp
theorem child_above {x l t : List UInt8} (h : childR x l = some t) : aboveB l t = true := by
  obtain ⟨h1, h2, _⟩ := child_some h
  rw [above_iff]
  refine ⟨h1, h2, ?_⟩
  rw [child_fl h]
  exact List.prefix_append _ _
theorem child_below {x l t : List UInt8} (h : childR x l = some t) : aboveB t l = false := by
  obtain ⟨h1, h2, h3, _⟩ := child_some h
  exact above_few (by rw [h3]; simp)
theorem child_cmp {x l t : List UInt8} (h : childR x l = some t) : cmpN l t = -1 := by
  unfold cmpN
  rw [child_fl h]
  exact lexG_more ord_ord _ _ (by simp)

end Go.Proofs.Ytphhljbeaklikaa.Pl

/- What Child and Fold of package rel give, for every argument. -/
namespace Go.Proofs.Ytphhljbeaklikaa
open Go.RowKit
open Pl

theorem child_no {x l : List UInt8} (h : x.length < 1 ∨ 63 < x.length ∨ isName l = false ∨ 255 < 1 + x.length + l.length) : childR x l = none := by
  unfold childR
  rw [if_neg]
  rintro ⟨h1, h2, h3, h4⟩
  rcases h with h | h | h | h
  · omega
  · omega
  · rw [h] at h3; simp at h3
  · omega

theorem str_cells (s : ByteArray) : Lib.strCells s = s.data.toList.map bv := rfl

theorem child_cells (x s : ByteArray) (h : x.size ≤ 63) : [] ++ [Value.int .u8 (x.size : Int)] ++ Lib.strCells x ++ Lib.strCells s = (UInt8.ofNat x.size :: (x.data.toList ++ s.data.toList)).map bv := by
  rw [str_cells, str_cells]
  simp [bv]
  omega

end Go.Proofs.Ytphhljbeaklikaa
