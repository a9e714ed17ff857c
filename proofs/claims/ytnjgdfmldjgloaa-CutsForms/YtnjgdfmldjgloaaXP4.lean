/- What Fold, last, Same, Above, Parent, Last and Child of the document's answers give, for every argument. -/
import Derived.Test.YtnjgdfmldjgloaaXP3
import Derived.Test.YtnjgdfmldjgloaaXP2
import Derived.Deep.RegionWith
import Derived.RegionTactic
import Derived.Deep.RegionLaw
import Derived.LoopN
namespace Go.Proofs.Ytnjgdfmldjgloaa
open Go.RowKit
open Pl

theorem foldK_still {l : List UInt8} {k : Nat} (h : k < l.length) (hb : fb l[k] = l[k]) : foldK l (k + 1) = foldK l k := by
  rw [← foldK_set l k h, hb]
  apply List.ext_getElem (by simp)
  intro j h1 h2
  rw [List.getElem_set]
  split
  · rename_i e; subst e; rw [foldK_at l _ h]
  · rfl

theorem refFold_no (s : ByteArray) (w : World) (hs : s.size ≤ maxLen) (h : isName s.data.toList = false) :
    Calls Try.prog 16 #[.string s] w fun e w' => e = .returned (.string ⟨(foldR s.data.toList).toArray⟩) ∧ Below w.heap.size w w' := by
  rw [foldR_no h]
  go_enter Try.func16, Try.ntmps16
  go_wp2_with (go_at_call 40; refine (places_any _ _ hs).mono ?_; rintro e w' ⟨v, rfl, hb, hp⟩)
  go_ret
  exact ⟨rfl, hb⟩

/-- The place of a name's label, and the label's length there. -/
theorem name_at {s : ByteArray} (h : isName s.data.toList = true) (i : Nat) (hi : i < (labs s.data.toList).length) :
    ∃ hp : pos (labs s.data.toList) i < s.data.toList.length, (s.data.toList[pos (labs s.data.toList) i]'hp).toNat ≤ 63 := by
  obtain ⟨e1, e2, _, _⟩ := enc_of h
  have hp : pos (labs s.data.toList) i < s.data.toList.length := by have := pos_in h i; rw [data_len]; exact this
  refine ⟨hp, ?_⟩
  have h1 := pos_at (labs s.data.toList) i hi
  have e : ∀ (a b : List UInt8) (k : Nat) (ha : k < a.length) (hb : k < b.length), a = b → a[k] = b[k] := by
    intro a b k ha hb e; subst e; rfl
  rw [e _ _ _ hp (pos_lt _ _) e1, h1, len_byte (e2 _ (List.getElem_mem _)).2]
  exact (e2 _ (List.getElem_mem _)).2

set_option maxRecDepth 20000 in
set_option maxHeartbeats 2000000 in
theorem refFold_yes (s : ByteArray) (w : World) (h : isName s.data.toList = true) :
    Calls Try.prog 16 #[.string s] w fun e w' => e = .returned (.string ⟨(foldR s.data.toList).toArray⟩) ∧ Below w.heap.size w w' := by
  rw [foldR_yes h]
  have h255 := name_size h
  have hsl := data_len s
  have hs : s.size ≤ maxLen := by unfold maxLen; omega
  have h127 := few h
  go_enter Try.func16, Try.ntmps16
  go_wp2_with (first
    | (go_at_call 40; refine (places_any _ _ hs).mono ?_; rintro e w1 ⟨v, rfl, hb1, hp⟩; obtain ⟨gp, cap, qs, rfl, hpl, hown⟩ := hp h; obtain ⟨n, hn⟩ : ∃ n, n = qs.length := ⟨_, rfl⟩; rw [← hn] at hown ⊢; have hq := places_pos h hpl; have HN : Hid (n = (labs s.data.toList).length + 1) := hn.trans hq.1; have HNQ : Hid (n = qs.length) := hn; have HQ : Hid (∀ i, i ≤ (labs s.data.toList).length → qs.getD i 0 = pos (labs s.data.toList) i) := hq.2; have hn3 : n ≤ 128 := (by have := hn.trans hq.1; omega); have hn4 : 1 ≤ n := (by have := hn.trans hq.1; omega); clear hp hpl hn hq)
    | (refine wpList_bytesB _ rfl (.tmp 15) rfl s rfl ?_; intro cap2 w2 hrow hg hsz))
  have hgl1 : gp < w1.heap.size := (hown.lt gp rfl).2
  have hgb : w.heap.size ≤ gp := (hown.lt gp rfl).1
  have hpc : ∀ j, j < n → w2.cell? ⟨gp, j, none⟩ = some (.int .i64 (pos (labs s.data.toList) j : Nat)) := fun j hj => by
    have e : w1.cell? ⟨gp, j, none⟩ = some (.int .i64 (pos (labs s.data.toList) j : Nat)) := by
      rw [hown.cellAt j (by omega)]
      have hj' : j < qs.length := by rw [← HNQ.out]; exact hj
      rw [← HQ.out j (by have := HN.out; omega)]
      simp [hj', iv]
    exact hg.cell e (by simp)
  have hb2 : Below w.heap.size w w2 := next hb1 (below_of hg)
  obtain ⟨go, hgo⟩ : ∃ go, go = w1.heap.size := ⟨_, rfl⟩
  rw [← hgo] at hrow ⊢
  have hne : gp ≠ go := by omega
  have hgo2 : w.heap.size ≤ go := by omega
  have HROW : Hid (BRow w2 go (foldK s.data.toList (pos (labs s.data.toList) 0))) := by unfold Hid; rw [pos_zero, foldK_zero]; exact hrow
  clear hown hrow hg hsz hb1 hgo hgl1
  go_loopw [6] (fun i wr => ∃ (k : Nat), k + 1 ≤ n ∧ i = .int .i64 k ∧ Hid (BRow wr go (foldK s.data.toList (pos (labs s.data.toList) k))) ∧ (∀ j, j < n → wr.cell? ⟨gp, j, none⟩ = some (.int .i64 (pos (labs s.data.toList) j : Nat))) ∧ Below w.heap.size w wr) (fun i _ => n - (intOf i).toNat)
  case atStart => exact ⟨0, by omega, rfl, HROW, hpc, hb2⟩
  case round =>
    clear hpc HROW hb2
    obtain ⟨k, hk, rfl, HR, hpc, hbel⟩ := hrel
    by_cases hkn : k + 1 < n
    · have hkn2 : (k : Int) + 1 < (n : Int) := by omega
      obtain ⟨hPl, h63⟩ := name_at h k (by have := HN.out; omega)
      have hsucc := pos_succ (labs s.data.toList) k (by have := HN.out; omega)
      have hQs := pos_in h (k + 1)
      have hc1 := hpc k (by omega)
      have hc2 := hpc (k + 1) hkn
      have HR2 : Hid (BRow wr go (foldK s.data.toList (pos (labs s.data.toList) k + 1))) := by
        unfold Hid; rw [foldK_still hPl (fb_small h63)]; exact HR
      obtain ⟨P, hP⟩ : ∃ P, P = pos (labs s.data.toList) k := ⟨_, rfl⟩
      obtain ⟨Q, hQ⟩ : ∃ Q, Q = pos (labs s.data.toList) (k + 1) := ⟨_, rfl⟩
      rw [← hP] at hc1 HR2 hsucc
      rw [← hQ] at hc2 hQs hsucc
      have HPC : Hid (∀ j, j < n → wr.cell? ⟨gp, j, none⟩ = some (.int .i64 (pos (labs s.data.toList) j : Nat))) := hpc
      have HQQ : Hid (Q = pos (labs s.data.toList) (k + 1)) := hQ
      have hPQ : P + 1 ≤ Q := by omega
      clear hP hQ hpc hsucc h63 hPl HR
      go_wp2
      go_loopw [7] (fun i wq => ∃ (j : Nat), P + 1 ≤ j ∧ j ≤ Q ∧ i = .int .i64 j ∧ Hid (BRow wq go (foldK s.data.toList j)) ∧ (∀ j, j < n → wq.cell? ⟨gp, j, none⟩ = some (.int .i64 (pos (labs s.data.toList) j : Nat))) ∧ Below w.heap.size w wq) (fun i _ => Q - (intOf i).toNat)
      case atStart => exact ⟨P + 1, Nat.le_refl _, hPQ, by go_num, HR2, HPC.out, hbel⟩
      case round =>
        clear hc1 hc2 HR2 HPC hbel
        obtain ⟨j, hPj, hjQ, rfl, HRj, hpcj, hbelj⟩ := hrel
        have hc2 := hpcj (k + 1) hkn
        rw [← HQQ.out] at hc2
        have HPJ : Hid (∀ j, j < n → wr.cell? ⟨gp, j, none⟩ = some (.int .i64 (pos (labs s.data.toList) j : Nat))) := hpcj
        clear hpcj
        by_cases hjl : j < Q
        · have hjs : j < s.size := by omega
          have hjl2 : j < s.data.toList.length := by omega
          have hjk : j < (foldK s.data.toList j).length := by rw [foldK_len]; exact hjl2
          have hb8 := (s[j]).toNat_lt
          have hcell : wr.cell? ⟨go, j, none⟩ = some (.int .u8 (s[j].toNat : Int)) := by
            rw [HRj.out.cell j hjk, foldK_at _ _ hjl2]; rfl
          by_cases h65 : 65 ≤ s[j].toNat ∧ s[j].toNat ≤ 90
          · have hfro := HRj.out.frozen j hjk
            have hst := HRj.out.stored j hjk (fb s[j])
            have hfn : ((fb s[j]).toNat : Int) = (s[j].toNat : Int) + 32 := by rw [fb_nat, if_pos h65]; omega
            rw [hfn] at hst
            rw [show s[j] = s.data.toList[j] from rfl, foldK_set _ _ hjl2] at hst
            have HST : Hid (BRow (wr.setCell ⟨go, j, none⟩ (.int .u8 ((s[j].toNat : Int) + 32))) go (foldK s.data.toList (j + 1)) ∧ wr.grownBy (wr.setCell ⟨go, j, none⟩ (.int .u8 ((s[j].toNat : Int) + 32))) (some go)) := hst
            have h65a := h65.1
            have h65b := h65.2
            clear hst hfn h65
            go_wp2
            go_roundw
            case rel => exact ⟨j + 1, by omega, by omega, by go_num, HST.out.1, fun i hi => HST.out.2.cell (HPJ.out i hi) (by intro e; exact hne (Option.some.inj e)), hbelj.grown HST.out.2 hbelj.size (fun q e => by have := Option.some.inj e; omega)⟩
            case measure => simp [intOf]; omega
          · have HK : Hid (BRow wr go (foldK s.data.toList (j + 1))) := by
              have h66 : ¬ (65 ≤ s.data.toList[j].toNat ∧ s.data.toList[j].toNat ≤ 90) := h65
              unfold Hid; rw [foldK_still hjl2 (by unfold fb; rw [if_neg h66])]; exact HRj
            by_cases h65a : 65 ≤ s[j].toNat
            · have h65b : decide ((s[j].toNat : Int) ≤ 90) = false := by simp; omega
              clear h65
              go_wp2
              go_roundw
              case rel => exact ⟨j + 1, by omega, by omega, by go_num, HK, HPJ.out, hbelj⟩
              case measure => simp [intOf]; omega
            · have h65b : decide ((65 : Int) ≤ (s[j].toNat : Int)) = false := by simp; omega
              clear h65
              go_wp2
              go_roundw
              case rel => exact ⟨j + 1, by omega, by omega, by go_num, HK, HPJ.out, hbelj⟩
              case measure => simp [intOf]; omega
        · have hjq : j = Q := by omega
          have HJQ : Hid (j = Q) := hjq
          clear hjq
          go_wp2
          go_roundw
          case rel => exact ⟨k + 1, by omega, by go_num, by unfold Hid; rw [← HQQ.out, ← HJQ.out]; exact HRj, HPJ.out, hbelj⟩
          case measure => simp [intOf]; omega
    · have HA : Hid (BRow wr go (foldL s.data.toList)) := by
        have hke : k = (labs s.data.toList).length := by have := HN.out; omega
        obtain ⟨e1, _, _, _⟩ := enc_of h
        have hlast := pos_last (labs s.data.toList)
        rw [← e1] at hlast
        have h1 := pos_end (labs s.data.toList) (labs s.data.toList).length (Nat.le_refl _)
        have hp : pos (labs s.data.toList) (labs s.data.toList).length < s.data.toList.length := by omega
        have e : ∀ (a b : List UInt8) (k : Nat) (ha : k < a.length) (hb : k < b.length), a = b → a[k] = b[k] := by
          intro a b k ha hb e; subst e; rfl
        have h2 : s.data.toList[pos (labs s.data.toList) (labs s.data.toList).length]'hp = 0 := (e _ _ _ hp (pos_lt _ _) e1).trans h1
        have h3 := foldK_still hp (by rw [h2]; decide)
        have h4 := HR.out
        rw [hke, ← h3, foldK_all _ _ (by omega)] at h4
        exact h4
      have hn : (foldL s.data.toList).length = s.size := by rw [fold_len]; exact hsl
      have HNN : Hid ((foldL s.data.toList).length = s.size) := hn
      clear hn hpc
      go_wp2_with (refine wpList_stringC _ rfl (.tmp 58) rfl go s.size cap2 (foldL s.data.toList) rfl HNN.out HA.out ?_)
      go_ret
      exact ⟨rfl, hbel⟩

theorem refFold_any (s : ByteArray) (w : World) (hs : s.size ≤ maxLen) :
    Calls Try.prog 16 #[.string s] w fun e w' => e = .returned (.string ⟨(foldR s.data.toList).toArray⟩) ∧ Below w.heap.size w w' := by
  cases h : isName s.data.toList with
  | false => exact refFold_no s w hs h
  | true => exact refFold_yes s w h

end Go.Proofs.Ytnjgdfmldjgloaa

/- What last, Same, Above, Parent, Last and Child of the document's answers give, for every argument. -/
namespace Go.Proofs.Ytnjgdfmldjgloaa
open Go.RowKit
open Pl

set_option maxRecDepth 20000 in
set_option maxHeartbeats 1000000 in
theorem refL_any (s t : ByteArray) (k : Nat) (w : World) (h : isName s.data.toList = true) (hk : k ≤ (labs s.data.toList).length) (ht : t.data.toList = lastN s.data.toList k) :
    Calls Try.prog 43 #[.string s, .int .i64 (k : Int)] w fun e w' => e = .returned (.string t) ∧ Below w.heap.size w w' := by
  have h255 := name_size h
  have hs : s.size ≤ maxLen := by unfold maxLen; omega
  have h127 := few h
  obtain ⟨m, hm⟩ : ∃ m, m = (labs s.data.toList).length := ⟨_, rfl⟩
  have HM : Hid (m = (labs s.data.toList).length) := hm
  have hkm : k ≤ m := by omega
  have hm127 : m ≤ 127 := by omega
  obtain ⟨P, hP⟩ : ∃ P, P = pos (labs s.data.toList) (m - k) := ⟨_, rfl⟩
  have HP : Hid (P = pos (labs s.data.toList) (m - k)) := hP
  have hPs : P ≤ s.size := by have := pos_in h (m - k); omega
  have hTe : s.extract P s.size = t := by
    apply ByteArray.ext
    apply Array.toList_inj.1
    rw [ht, hP, hm, last_ext h]
  have HTE : Hid (s.extract P s.size = t) := hTe
  clear hm hP hTe ht
  go_enter Try.func43, Try.ntmps43
  go_wp2_with (go_at_call 40; refine (places_any _ _ hs).mono ?_; rintro e w1 ⟨v, rfl, hb1, hp⟩; obtain ⟨gp, cap, qs, rfl, hpl, hown⟩ := hp h; have hq := places_pos h hpl; have hql : qs.length = m + 1 := hq.1.trans (by rw [HM.out]); rw [hql] at hown ⊢; have hc : w1.cell? ⟨gp, m - k, none⟩ = some (.int .i64 (P : Int)) := (by rw [hown.cellAt (m - k) (by omega)]; have hj' : m - k < qs.length := (by omega); rw [HP.out, ← hq.2 (m - k) (by have := HM.out; omega)]; simp [hj', iv]); obtain ⟨j, hj⟩ : ∃ j, j = m - k := ⟨_, rfl⟩; rw [← hj] at hc; have hjk : (m : Int) + 1 - 1 - (k : Int) = (j : Int) := (by omega); have hjk2 : (m : Int) - (k : Int) = (j : Int) := (by omega); have hjm : j ≤ m := (by omega); clear hp hpl hown hq hql hj)
  go_ret
  exact ⟨ret_str HTE.out, hb1⟩

theorem refFold_as (s t : ByteArray) (w : World) (hs : s.size ≤ maxLen) (h : foldR s.data.toList = t.data.toList) :
    Calls Try.prog 16 #[.string s] w fun e w' => e = .returned (.string t) ∧ Below w.heap.size w w' := by
  have := refFold_any s w hs
  rw [h] at this
  exact this
theorem refCount_as (s : ByteArray) (n : Nat) (w : World) (hs : s.size ≤ maxLen) (h : cnt s.data.toList = n) :
    Calls Try.prog 41 #[.string s] w fun e w' => e = .returned (.int .i64 n) ∧ Below w.heap.size w w' := by rw [← h]; exact refCount_any s w hs
theorem cnt_labs {l : List UInt8} (h : isName l = true) : cnt l = (labs l).length := (enc_of h).2.2.1

theorem list_test (a b : ByteArray) : (a.toList == b.toList) = decide (a.data.toList = b.data.toList) := by
  rw [ByteArray.toList_eq, ByteArray.toList_eq, Bool.eq_iff_iff]; simp

set_option maxRecDepth 20000 in
set_option maxHeartbeats 1000000 in
theorem refSame_any (a b : ByteArray) (w : World) (ha : a.size ≤ maxLen) (hb : b.size ≤ maxLen) :
    Calls Try.prog 42 #[.string a, .string b] w fun e w' => e = .returned (.bool (sameB a.data.toList b.data.toList)) ∧ Below w.heap.size w w' := by
  have hbel : Below w.heap.size w w := Below.refl _ _
  cases h1 : isName a.data.toList with
  | false =>
    have HR : Hid (false = sameB a.data.toList b.data.toList) := by unfold Hid sameB; rw [h1]; rfl
    go_enter Try.func42, Try.ntmps42
    go_wp2_with (go_at_call 14; refine (refMay_as a false _ ha h1).mono ?_; rintro e w1 ⟨rfl, b1⟩; replace hbel := next hbel b1; clear b1)
    go_ret
    exact ⟨ret_bool HR.out, hbel⟩
  | true =>
    cases h2 : isName b.data.toList with
    | false =>
      have HR : Hid (false = sameB a.data.toList b.data.toList) := by unfold Hid sameB; rw [h1, h2]; rfl
      have t1 : True := trivial
      have t2 : True := trivial
      go_enter Try.func42, Try.ntmps42
      go_wp2_with (first
        | (go_at_call 14; have _t := t1; refine (refMay_as a true _ ha h1).mono ?_; rintro e w1 ⟨rfl, b1⟩; replace hbel := next hbel b1; clear b1 t1)
        | (go_at_call 14; have _t := t2; refine (refMay_as b false _ hb h2).mono ?_; rintro e w1 ⟨rfl, b1⟩; replace hbel := next hbel b1; clear b1 t2))
      go_ret
      exact ⟨ret_bool HR.out, hbel⟩
    | true =>
      obtain ⟨F, hF⟩ : ∃ F : ByteArray, foldR a.data.toList = F.data.toList := ⟨⟨(foldR a.data.toList).toArray⟩, by simp⟩
      obtain ⟨G, hG⟩ : ∃ G : ByteArray, foldR b.data.toList = G.data.toList := ⟨⟨(foldR b.data.toList).toArray⟩, by simp⟩
      have HF : Hid (foldR a.data.toList = F.data.toList) := hF
      have HG : Hid (foldR b.data.toList = G.data.toList) := hG
      have HR : Hid ((F.toList == G.toList) = sameB a.data.toList b.data.toList) := by
        unfold Hid sameB
        rw [list_test, ← hF, ← hG, h1, h2, foldR_yes h1, foldR_yes h2]
        simp
      clear hF hG
      have t1 : True := trivial
      have t2 : True := trivial
      have t3 : True := trivial
      have t4 : True := trivial
      go_enter Try.func42, Try.ntmps42
      go_wp2_with (first
        | (go_at_call 14; have _t := t1; refine (refMay_as a true _ ha h1).mono ?_; rintro e w1 ⟨rfl, b1⟩; replace hbel := next hbel b1; clear b1 t1)
        | (go_at_call 14; have _t := t2; refine (refMay_as b true _ hb h2).mono ?_; rintro e w1 ⟨rfl, b1⟩; replace hbel := next hbel b1; clear b1 t2)
        | (go_at_call 16; have _t := t3; refine (refFold_as a F _ ha HF.out).mono ?_; rintro e w1 ⟨rfl, b1⟩; replace hbel := next hbel b1; clear b1 t3)
        | (go_at_call 16; have _t := t4; refine (refFold_as b G _ hb HG.out).mono ?_; rintro e w1 ⟨rfl, b1⟩; replace hbel := next hbel b1; clear b1 t4))
      go_ret
      exact ⟨ret_bool HR.out, hbel⟩
theorem refSame_as (a b : ByteArray) (v : Bool) (w : World) (ha : a.size ≤ maxLen) (hb : b.size ≤ maxLen) (h : sameB a.data.toList b.data.toList = v) :
    Calls Try.prog 42 #[.string a, .string b] w fun e w' => e = .returned (.bool v) ∧ Below w.heap.size w w' := by rw [← h]; exact refSame_any a b w ha hb

set_option maxRecDepth 20000 in
set_option maxHeartbeats 1000000 in
theorem refAbove_any (a b : ByteArray) (w : World) (ha : a.size ≤ maxLen) (hb : b.size ≤ maxLen) :
    Calls Try.prog 15 #[.string a, .string b] w fun e w' => e = .returned (.bool (aboveB a.data.toList b.data.toList)) ∧ Below w.heap.size w w' := by
  have hbel : Below w.heap.size w w := Below.refl _ _
  cases h1 : isName a.data.toList with
  | false =>
    have HR : Hid (false = aboveB a.data.toList b.data.toList) := by unfold Hid aboveB; rw [h1]; rfl
    go_enter Try.func15, Try.ntmps15
    go_wp2_with (go_at_call 14; refine (refMay_as a false _ ha h1).mono ?_; rintro e w1 ⟨rfl, b1⟩; replace hbel := next hbel b1; clear b1)
    go_ret
    exact ⟨ret_bool HR.out, hbel⟩
  | true =>
    cases h2 : isName b.data.toList with
    | false =>
      have HR : Hid (false = aboveB a.data.toList b.data.toList) := by unfold Hid aboveB; rw [h1, h2]; rfl
      have t1 : True := trivial
      have t2 : True := trivial
      go_enter Try.func15, Try.ntmps15
      go_wp2_with (first
        | (go_at_call 14; have _t := t1; refine (refMay_as a true _ ha h1).mono ?_; rintro e w1 ⟨rfl, b1⟩; replace hbel := next hbel b1; clear b1 t1)
        | (go_at_call 14; have _t := t2; refine (refMay_as b false _ hb h2).mono ?_; rintro e w1 ⟨rfl, b1⟩; replace hbel := next hbel b1; clear b1 t2))
      go_ret
      exact ⟨ret_bool HR.out, hbel⟩
    | true =>
      obtain ⟨n, hn⟩ : ∃ n, n = (labs a.data.toList).length := ⟨_, rfl⟩
      obtain ⟨m, hm⟩ : ∃ m, m = (labs b.data.toList).length := ⟨_, rfl⟩
      have HCA : Hid (cnt a.data.toList = n) := by unfold Hid; rw [hn]; exact cnt_labs h1
      have HCB : Hid (cnt b.data.toList = m) := by unfold Hid; rw [hm]; exact cnt_labs h2
      have h127 : n ≤ 127 := by rw [hn]; exact few h1
      have h127m : m ≤ 127 := by rw [hm]; exact few h2
      have t1 : True := trivial
      have t2 : True := trivial
      have t3 : True := trivial
      have t4 : True := trivial
      have t5 : True := trivial
      by_cases hnm : n ≤ m
      · obtain ⟨T, hT⟩ : ∃ T : ByteArray, T.data.toList = lastN b.data.toList n := ⟨⟨(lastN b.data.toList n).toArray⟩, by simp⟩
        have HT : Hid (T.data.toList = lastN b.data.toList n) := hT
        have HTS : Hid (T.size ≤ maxLen) := by
          have h5 := name_size h2
          unfold Hid maxLen
          rw [← data_len, hT, last_drop h2, List.length_drop, data_len]
          omega
        have HK : Hid (n ≤ (labs b.data.toList).length) := by unfold Hid; omega
        have HR : Hid (sameB a.data.toList T.data.toList = aboveB a.data.toList b.data.toList) := by
          unfold Hid
          rw [hT]
          unfold sameB aboveB
          rw [h1, h2, (last_name h2 n (by omega)).1, ← hn, ← hm]
          simp [hnm]
        clear hn hm hT
        have hnm2 : (n : Int) ≤ (m : Int) := by omega
        go_enter Try.func15, Try.ntmps15
        go_wp2_with (first
          | (go_at_call 14; have _t := t1; refine (refMay_as a true _ ha h1).mono ?_; rintro e w1 ⟨rfl, b1⟩; replace hbel := next hbel b1; clear b1 t1)
          | (go_at_call 14; have _t := t2; refine (refMay_as b true _ hb h2).mono ?_; rintro e w1 ⟨rfl, b1⟩; replace hbel := next hbel b1; clear b1 t2)
          | (go_at_call_of 41 (#[Value.string a]); refine (refCount_as a n _ ha HCA.out).mono ?_; rintro e w1 ⟨rfl, b1⟩; replace hbel := next hbel b1; clear b1)
          | (go_at_call_of 41 (#[Value.string b]); refine (refCount_as b m _ hb HCB.out).mono ?_; rintro e w1 ⟨rfl, b1⟩; replace hbel := next hbel b1; clear b1)
          | (go_at_call 43; refine (refL_any b T n _ h2 HK.out HT.out).mono ?_; rintro e w1 ⟨rfl, b1⟩; replace hbel := next hbel b1; clear b1)
          | (go_at_call 42; refine (refSame_as a T _ _ ha HTS.out HR.out).mono ?_; rintro e w1 ⟨rfl, b1⟩; replace hbel := next hbel b1; clear b1))
        go_ret
        exact ⟨rfl, hbel⟩
      · have HR : Hid (false = aboveB a.data.toList b.data.toList) := (above_few (by omega)).symm
        clear hn hm
        have hnm2 : decide (n ≤ m) = false := by simpa using hnm
        go_enter Try.func15, Try.ntmps15
        go_wp2_with (first
          | (go_at_call 14; have _t := t1; refine (refMay_as a true _ ha h1).mono ?_; rintro e w1 ⟨rfl, b1⟩; replace hbel := next hbel b1; clear b1 t1)
          | (go_at_call 14; have _t := t2; refine (refMay_as b true _ hb h2).mono ?_; rintro e w1 ⟨rfl, b1⟩; replace hbel := next hbel b1; clear b1 t2)
          | (go_at_call_of 41 (#[Value.string a]); refine (refCount_as a n _ ha HCA.out).mono ?_; rintro e w1 ⟨rfl, b1⟩; replace hbel := next hbel b1; clear b1)
          | (go_at_call_of 41 (#[Value.string b]); refine (refCount_as b m _ hb HCB.out).mono ?_; rintro e w1 ⟨rfl, b1⟩; replace hbel := next hbel b1; clear b1))
        go_ret
        exact ⟨ret_bool HR.out, hbel⟩

end Go.Proofs.Ytnjgdfmldjgloaa

/- What Parent, Last and Child of the document's answers give, for every argument. -/
namespace Go.Proofs.Ytnjgdfmldjgloaa
open Go.RowKit
open Pl

end Go.Proofs.Ytnjgdfmldjgloaa

/- What labels of the document's answers gives, for every string. -/
namespace Go.Proofs.Ytnjgdfmldjgloaa
open Go.RowKit
open Pl

theorem info9 : (Try.prog.info? 9).map (fun i => (i.zero, i.size, i.bytes)) = some (some (.string ⟨#[]⟩), 1, 16) := by kernel_rfl

theorem ne_block {v : Value} {gc g sz n cap : Nat} (h3 : v.ownBlock = some g ∨ sz ≤ g) (hne : v.ownBlock ≠ some gc) (hlt : gc < sz) : Value.ownBlock (.slice (some ⟨g, 0, none⟩) n cap) ≠ some gc := by
  intro e
  have e' : g = gc := by simpa [Value.ownBlock] using e
  subst e'
  rcases h3 with h3 | h3
  · exact hne h3
  · omega

theorem grown_back {w w' : World} {o : Obj} {r : Option Nat} (h3 : (w.alloc o).drew.grownBy w' r) : w.grownBy w' r := by
  refine ⟨h3.os, h3.tape, h3.output, ?_, fun k hk hne => ?_⟩
  · have : (w.alloc o).heap.size ≤ w'.heap.size := h3.size
    simp at this
    omega
  · have e1 := h3.block k (by show k < (w.alloc _).heap.size; simp; omega) hne
    exact e1.trans (Below.heap_alloc w _ k hk)
theorem new_cells (w : World) (t : ByteArray) : ∀ j u, [Value.string t][j]? = some u → (w.alloc (.cells #[.string t] 9)).drew.cell? ((⟨w.heap.size, 0, none⟩ : Addr).add j) = some u := by
  simpa using World.news_of_block (heap_alloc_new w (.cells #[.string t] 9))

/-- Strings that are the labels of a name, folded, the last one first. -/
def Strs (l : List UInt8) (ss : List ByteArray) : Prop := ss.map (fun s => s.data.toList) = fl l

theorem take_step {l : List (List UInt8)} {m J : Nat} (hm : l.length = m) (hJ : J < m) {T : List UInt8} (hT : T = l[m - 1 - J]'(by omega)) : l.take (m - 1 - J) ++ [T] = l.take (m - J) := by
  rw [show m - J = m - 1 - J + 1 from by omega, List.take_succ_eq_append_getElem (by omega), hT]

end Go.Proofs.Ytnjgdfmldjgloaa

/- What Compare of the document's answers gives, for every two strings. -/
namespace Go.Proofs.Ytnjgdfmldjgloaa
open Go.RowKit
open Pl

theorem less_lex : ∀ x y : List UInt8, Op.bytesLess x y = decide (lexG cB x y = -1) := by
  intro x
  induction x with
  | nil =>
    intro y
    cases y with
    | nil => simp [Op.bytesLess, lexG]
    | cons b y => simp [Op.bytesLess, lexG]
  | cons a x ih =>
    intro y
    cases y with
    | nil => simp [Op.bytesLess, lexG]
    | cons b y =>
      rw [Op.bytesLess, ih y, lexG]
      have hl : decide (a < b) = decide (a.toNat < b.toNat) := by rw [Bool.eq_iff_iff]; simp [UInt8.lt_iff_toNat_lt]
      have he : (a == b) = decide (a.toNat = b.toNat) := by rw [Bool.eq_iff_iff]; simp [UInt8.toNat_inj]
      rw [hl, he]
      unfold cB sgn
      rcases Nat.lt_trichotomy a.toNat b.toNat with h | h | h
      · have h1 : (a.toNat : Int) < (b.toNat : Int) := by omega
        have h2 : ¬ a.toNat = b.toNat := by omega
        simp [h, h2]
      · have h1 : ¬ a.toNat < b.toNat := by omega
        have h2 : ¬ b.toNat < a.toNat := by omega
        simp [h]
      · have h1 : ¬ a.toNat < b.toNat := by omega
        have h2 : ¬ a.toNat = b.toNat := by omega
        simp [h, h1, h2]

/-- A row of strings, as a slice and its cells. -/
theorem str_row {w : World} {base n : Nat} {v : Value} {ss : List ByteArray} (h : w.ownsRow base 9 1 v n (ss.map Value.string)) :
    ∃ a c, v = .slice a n c ∧ (n = 0 ∨ ∃ g, a = some ⟨g, 0, none⟩ ∧ ∀ j (hj : j < ss.length), w.cell? ⟨g, j, none⟩ = some (.string ss[j])) := by
  rcases h.2 with ⟨rfl, rfl⟩ | ⟨g, cap, cur, rfl, hb, hg, hnc, hm, hcs, htake⟩
  · exact ⟨none, 0, rfl, .inl rfl⟩
  · refine ⟨_, _, rfl, .inr ⟨g, rfl, fun j hj => ?_⟩⟩
    have hn : ss.length = n := by simpa using h.1
    rw [h.cellAt j (by omega)]
    simp [hj]

theorem cmpK_start (a b : List UInt8) : cmpN a b = lexG (lexG cB) ((fl a).drop 0) ((fl b).drop 0) := rfl

theorem cmpK_step {a b : List UInt8} {ss tt : List ByteArray} {k : Nat} (ha : Strs a ss) (hb : Strs b tt) (h : cmpN a b = lexG (lexG cB) ((fl a).drop k) ((fl b).drop k)) (h1 : k < ss.length) (h2 : k < tt.length) :
    cmpN a b = if lexG cB ss[k].data.toList tt[k].data.toList = 0 then lexG (lexG cB) ((fl a).drop (k + 1)) ((fl b).drop (k + 1)) else lexG cB ss[k].data.toList tt[k].data.toList := by
  unfold Strs at ha hb
  have l1 : (fl a).length = ss.length := by rw [← ha]; simp
  have l2 : (fl b).length = tt.length := by rw [← hb]; simp
  rw [h, lexG_drop ord_ord _ _ k (by omega) (by omega)]
  have e : ∀ (l : List (List UInt8)) (rs : List ByteArray) (i : Nat) (hi : i < l.length) (hj : i < rs.length), rs.map (fun s => s.data.toList) = l → l[i] = rs[i].data.toList := by
    intro l rs i hi hj e; subst e; simp
  rw [e _ _ _ (by omega) h1 ha, e _ _ _ (by omega) h2 hb]

theorem less_as {X Y : ByteArray} {b : Bool} (h : decide (lexG cB X.data.toList Y.data.toList = -1) = b) : Op.bytesLess X.toList Y.toList = b := by
  rw [ByteArray.toList_eq, ByteArray.toList_eq, less_lex]; exact h
theorem gtr_as {X Y : ByteArray} {b : Bool} (h : decide (lexG cB X.data.toList Y.data.toList = 1) = b) : binOp .gtr 9 (.string X) (.string Y) = pure (.bool b) := by
  have e : binOp .gtr 9 (.string X) (.string Y) = pure (.bool !(Op.bytesLess X.toList Y.toList || X.toList == Y.toList)) := by simp [binOp, Op.stringOp]
  rw [e, ← h, ByteArray.toList_eq, ByteArray.toList_eq, less_lex]
  congr 2
  rw [Bool.eq_iff_iff]
  have hz := ord_ord.zero X.data.toList Y.data.toList
  rcases ord_ord.three X.data.toList Y.data.toList with h3 | h3 | h3
  · rw [h3]; simp
  · have := hz.1 h3
    rw [h3]; simp [this]
  · have hne : X.data.toList ≠ Y.data.toList := fun e => by have := hz.2 e; omega
    rw [h3]; simp; exact fun e => hne (by rw [e])

end Go.Proofs.Ytnjgdfmldjgloaa

/- What a store holds, plainly: entries, which is less, what is put, what is told. -/
namespace Go.Proofs.Ytnjgdfmldjgloaa
open Pl

/-- An entry. -/
structure En where
  n : ByteArray
  t : Int
  l : Int
  ds : List ByteArray
  r : Int
  u : Int

/-- Names and types in their row. -/
def cK (a : ByteArray) (s : Int) (b : ByteArray) (t : Int) : Int := if cmpN a.data.toList b.data.toList = 0 then sgn s t else cmpN a.data.toList b.data.toList
theorem sgn_self (s : Int) : sgn s s = 0 := by unfold sgn; simp
theorem sgn_anti (s t : Int) : sgn t s = - sgn s t := by unfold sgn; repeat' split <;> omega
theorem sgn_zero {s t : Int} (h : sgn s t = 0) : s = t := by unfold sgn at h; repeat' split at h <;> omega
theorem sgn_neg (s t : Int) : sgn s t < 0 ↔ s < t := by unfold sgn; repeat' split <;> omega
theorem cK_self (a : ByteArray) (s : Int) : cK a s a s = 0 := by unfold cK; rw [if_pos (cmp_self _), sgn_self]
theorem cK_anti (a : ByteArray) (s : Int) (b : ByteArray) (t : Int) : cK b t a s = - cK a s b t := by
  unfold cK
  rw [cmp_anti a.data.toList b.data.toList]
  by_cases h : cmpN a.data.toList b.data.toList = 0
  · rw [if_pos (by omega), if_pos h, sgn_anti]
  · rw [if_neg (by omega), if_neg h]
theorem cK_three (a : ByteArray) (s : Int) (b : ByteArray) (t : Int) : -1 ≤ cK a s b t ∧ cK a s b t ≤ 1 := by
  unfold cK
  split
  · unfold sgn; repeat' split <;> omega
  · exact cmp_three _ _
theorem cmp_lt {a b c : List UInt8} (h1 : cmpN a b < 0) (h2 : cmpN b c ≤ 0) : cmpN a c < 0 := by
  have h3 := cmp_trans (Int.le_of_lt h1) h2
  rcases Int.lt_or_eq_of_le h3 with h | h
  · exact h
  · exfalso
    have h4 : cmpN c a ≤ 0 := by rw [cmp_anti a c]; omega
    have := cmp_trans h2 h4
    have := cmp_anti a b
    omega
theorem cmp_lt' {a b c : List UInt8} (h1 : cmpN a b ≤ 0) (h2 : cmpN b c < 0) : cmpN a c < 0 := by
  have h3 := cmp_trans h1 (Int.le_of_lt h2)
  rcases Int.lt_or_eq_of_le h3 with h | h
  · exact h
  · exfalso
    have h4 : cmpN c a ≤ 0 := by rw [cmp_anti a c]; omega
    have := cmp_trans h4 h1
    have := cmp_anti b c
    omega
theorem cK_neg {a : ByteArray} {s : Int} {b : ByteArray} {t : Int} : cK a s b t < 0 ↔ cmpN a.data.toList b.data.toList < 0 ∨ cmpN a.data.toList b.data.toList = 0 ∧ s < t := by
  unfold cK
  split
  · rename_i h; rw [sgn_neg]; omega
  · rename_i h; omega
theorem cK_trans {a b c : ByteArray} {s t u : Int} (h1 : cK a s b t < 0) (h2 : cK b t c u < 0) : cK a s c u < 0 := by
  rw [cK_neg] at *
  rcases h1 with h1 | ⟨h1, h3⟩
  · rcases h2 with h2 | ⟨h2, _⟩
    · exact .inl (cmp_lt h1 (Int.le_of_lt h2))
    · exact .inl (cmp_lt h1 (Int.le_of_eq h2))
  · rcases h2 with h2 | ⟨h2, h4⟩
    · exact .inl (cmp_lt' (Int.le_of_eq h1) h2)
    · refine .inr ⟨?_, by omega⟩
      have e := (cmp_zero _ _).1 h1
      have e' := (cmp_zero _ _).1 h2
      exact (cmp_zero _ _).2 (e.trans e')

/-- A name in its small letters and a type: what tells entries apart. -/
structure OkK (n : ByteArray) (t : Int) : Prop where
  nm : isName n.data.toList = true
  fo : foldL n.data.toList = n.data.toList
  lo : 0 ≤ t
  hi : t ≤ 65535
theorem OkK.size {n : ByteArray} {t : Int} (h : OkK n t) : n.size ≤ 255 := by
  have := (name_some h.nm).1
  have e := data_len n
  omega
theorem bytes_ext {a b : ByteArray} (h : a.data.toList = b.data.toList) : a = b := by
  cases a with | mk a => cases b with | mk b => simp at h; rw [h]
theorem cK_zero {a b : ByteArray} {s t : Int} (ha : OkK a s) (hb : OkK b t) (h : cK a s b t = 0) : a = b ∧ s = t := by
  unfold cK at h
  by_cases e : cmpN a.data.toList b.data.toList = 0
  · rw [if_pos e] at h
    refine ⟨bytes_ext ?_, sgn_zero h⟩
    rw [← ha.fo, ← hb.fo]
    exact (fold_inj ha.nm hb.nm).2 ((cmp_zero _ _).1 e)
  · rw [if_neg e] at h
    exact absurd h e

/-- An entry that may be held. -/
structure OkE (e : En) : Prop where
  k : OkK e.n e.t
  len : e.ds.length ≤ 8796093022000
  siz : ∀ d ∈ e.ds, d.size ≤ 140737488351232
/-- Which entry is less: by its end, then by its name and type. -/
def ltE (x y : En) : Bool := decide (x.u < y.u) || (decide (x.u = y.u) && decide (cK x.n x.t y.n y.t < 0))
theorem ltE_iff {x y : En} : ltE x y = true ↔ x.u < y.u ∨ x.u = y.u ∧ cK x.n x.t y.n y.t < 0 := by unfold ltE; simp
theorem ltE_irr (x : En) : ltE x x = false := by
  cases h : ltE x x with
  | false => rfl
  | true => rw [ltE_iff, cK_self] at h; omega
theorem ltE_trans {x y z : En} (h1 : ltE x y = true) (h2 : ltE y z = true) : ltE x z = true := by
  rw [ltE_iff] at *
  rcases h1 with h1 | ⟨h1, h3⟩
  · exact .inl (by omega)
  · rcases h2 with h2 | ⟨h2, h4⟩
    · exact .inl (by omega)
    · exact .inr ⟨by omega, cK_trans h3 h4⟩
def sameK (n : ByteArray) (t : Int) (e : En) : Bool := decide (e.n = n) && decide (e.t = t)
theorem sameK_iff {n : ByteArray} {t : Int} {e : En} : sameK n t e = true ↔ e.n = n ∧ e.t = t := by unfold sameK; simp
theorem ltE_total {x y : En} (hx : OkE x) (hy : OkE y) (h : ltE x y = false) (hk : sameK x.n x.t y = false) : ltE y x = true := by
  rw [ltE_iff]
  have h1 : ¬ (x.u < y.u ∨ x.u = y.u ∧ cK x.n x.t y.n y.t < 0) := fun e => by rw [← ltE_iff, h] at e; cases e
  by_cases e : y.u < x.u
  · exact .inl e
  · refine .inr ⟨by omega, ?_⟩
    have h2 : ¬ cK x.n x.t y.n y.t < 0 := fun e' => h1 (.inr ⟨by omega, e'⟩)
    have h3 : cK x.n x.t y.n y.t ≠ 0 := fun e' => by
      have := cK_zero hx.k hy.k e'
      rw [sameK_iff.2 ⟨this.1.symm, this.2.symm⟩] at hk
      cases hk
    have := cK_anti x.n x.t y.n y.t
    omega

/-- Entries of which no two have one name and type. -/
def Dis (L : List En) : Prop := L.Pairwise (fun x y => sameK x.n x.t y = false)
theorem sameK_symm {x y : En} (h : sameK x.n x.t y = false) : sameK y.n y.t x = false := by
  cases e : sameK y.n y.t x with
  | false => rfl
  | true => rw [sameK_iff] at e; rw [sameK_iff.2 ⟨e.1.symm, e.2.symm⟩] at h; cases h
theorem Dis.at {L : List En} (h : Dis L) {i j : Nat} (hi : i < L.length) (hj : j < L.length) (hij : i ≠ j) : sameK L[i].n L[i].t L[j] = false := by
  rcases Nat.lt_or_gt_of_ne hij with h1 | h1
  · exact List.pairwise_iff_getElem.1 h i j hi hj h1
  · exact sameK_symm (List.pairwise_iff_getElem.1 h j i hj hi h1)
theorem Dis.filter {L : List En} (h : Dis L) (p : En → Bool) : Dis (L.filter p) := List.Pairwise.filter _ h

/-- The place of the least of the first i. -/
def minK (L : List En) : Nat → Nat
  | 0 => 0
  | i + 1 => match L[i]?, L[minK L i]? with
    | some a, some b => if ltE a b then i else minK L i
    | _, _ => minK L i
def minP (L : List En) : Nat := minK L L.length
theorem minK_step {L : List En} {i : Nat} (hi : i < L.length) (hk : minK L i < L.length) : minK L (i + 1) = if ltE L[i] L[minK L i] then i else minK L i := by
  rw [minK, List.getElem?_eq_getElem hi, List.getElem?_eq_getElem hk]
theorem minK_lt {L : List En} : ∀ {i : Nat}, 1 ≤ i → i ≤ L.length → minK L i < i := by
  intro i
  induction i with
  | zero => intro h _; omega
  | succ i ih =>
    intro _ hi
    by_cases h0 : i = 0
    · subst h0
      rw [minK_step (by omega) (by show 0 < _; omega)]
      split
      · omega
      · show minK L 0 < 1; simp [minK]
    · have := ih (by omega) (by omega)
      rw [minK_step (by omega) (by omega)]
      split <;> omega
theorem minK_least {L : List En} (hd : Dis L) (ho : ∀ e ∈ L, OkE e) : ∀ {i : Nat} (_ : 1 ≤ i) (hi : i ≤ L.length) (hk : minK L i < L.length) (j : Nat) (hj : j < i), j ≠ minK L i → ltE L[minK L i] (L[j]'(by omega)) = true := by
  intro i
  induction i with
  | zero => intro h; omega
  | succ i ih =>
    intro _ hi hk j hj hne
    by_cases h0 : i = 0
    · subst h0
      have e0 : minK L 1 = 0 := by have := minK_lt (L := L) (Nat.le_refl 1) (by omega); omega
      rw [e0] at hne
      omega
    · have hm := minK_lt (L := L) (i := i) (by omega) (by omega)
      have hs := minK_step (L := L) (i := i) (by omega) (by omega)
      have hd' := hd.at (i := i) (j := minK L i) (by omega) (by omega) (by omega)
      cases hl : ltE (L[i]'(by omega)) (L[minK L i]'(by omega)) with
      | true =>
        rw [hl, if_pos rfl] at hs
        simp only [hs] at hne ⊢
        by_cases hjm : j = minK L i
        · subst hjm; exact hl
        · exact ltE_trans hl (ih (by omega) (by omega) (by omega) j (by omega) hjm)
      | false =>
        rw [hl, if_neg (by simp)] at hs
        simp only [hs] at hne ⊢
        by_cases hji : j = i
        · subst hji
          exact ltE_total (ho _ (List.getElem_mem _)) (ho _ (List.getElem_mem _)) hl hd'
        · exact ih (by omega) (by omega) (by omega) j (by omega) hne
theorem minP_lt {L : List En} (h : 0 < L.length) : minP L < L.length := minK_lt h (Nat.le_refl _)
theorem minP_least {L : List En} (hd : Dis L) (ho : ∀ e ∈ L, OkE e) (h : 0 < L.length) (j : Nat) (hj : j < L.length) (hne : j ≠ minP L) : ltE (L[minP L]'(minP_lt h)) L[j] = true :=
  minK_least hd ho h (Nat.le_refl _) (minP_lt h) j hj hne
/-- What is less than all others is the least. -/
theorem minP_eq {L : List En} (hd : Dis L) (ho : ∀ e ∈ L, OkE e) {i : Nat} (hi : i < L.length) (h : ∀ j (hj : j < L.length), j ≠ i → ltE L[i] L[j] = true) : i = minP L := by
  by_cases e : i = minP L
  · exact e
  · have h1 := minP_least hd ho (by omega) i hi e
    have h2 := h (minP L) (minP_lt (by omega)) (fun e' => e e'.symm)
    have := ltE_trans h1 h2
    rw [ltE_irr] at this
    cases this

/-- What is put, and what goes. -/
def beatsP (L : List En) (n : ByteArray) (t r now : Int) : Bool := L.any fun y => sameK n t y && decide (now < y.u) && decide (r < y.r)
def leftP (L : List En) (n : ByteArray) (t now : Int) : List En := L.filter fun y => !sameK n t y && decide (now < y.u)
def cutP (most : Nat) (L : List En) : List En := if L.length = most then L.eraseIdx (minP L) else L
def mayE (e : En) (now : Int) : Bool := isName e.n.data.toList && decide (1 ≤ e.t) && decide (e.t ≤ 65535) && decide (e.ds ≠ []) && decide (1 ≤ e.r) && decide (e.r ≤ 3) && decide (now < e.u) && decide (0 ≤ now) && decide (now ≤ 1099511627776)
def fdB (n : ByteArray) : ByteArray := ⟨(foldR n.data.toList).toArray⟩
def heldE (e : En) : En := { e with n := fdB e.n }
def putP (most : Nat) (L : List En) (e : En) (now : Int) : List En := if mayE e now && !beatsP L (fdB e.n) e.t e.r now then cutP most (leftP L (fdB e.n) e.t now) ++ [heldE e] else L
def errP (e : En) (now : Int) : Int := if mayE e now then 0 else 1300
def getP (L : List En) (n : ByteArray) (t now : Int) : Option En := L.find? fun y => sameK (fdB n) t y && decide (now < y.u)

theorem fdB_list (n : ByteArray) : (fdB n).data.toList = foldR n.data.toList := by simp [fdB]
theorem mayE_parts {e : En} {now : Int} (h : mayE e now = true) : isName e.n.data.toList = true ∧ 1 ≤ e.t ∧ e.t ≤ 65535 ∧ e.ds ≠ [] ∧ 1 ≤ e.r ∧ e.r ≤ 3 ∧ now < e.u ∧ 0 ≤ now ∧ now ≤ 1099511627776 := by
  unfold mayE at h
  simp only [Bool.and_eq_true, decide_eq_true_eq] at h
  obtain ⟨⟨⟨⟨⟨⟨⟨⟨h1, h2⟩, h3⟩, h4⟩, h5⟩, h6⟩, h7⟩, h8⟩, h9⟩ := h
  exact ⟨h1, h2, h3, h4, h5, h6, h7, h8, h9⟩
theorem held_ok {e : En} {now : Int} (h : mayE e now = true) (hl : e.ds.length ≤ 8796093022000) (hs : ∀ d ∈ e.ds, d.size ≤ 140737488351232) : OkE (heldE e) := by
  obtain ⟨h1, h2, h3, _⟩ := mayE_parts h
  have e1 : foldR e.n.data.toList = foldL e.n.data.toList := by unfold foldR; rw [if_pos h1]
  refine ⟨⟨?_, ?_, by show 0 ≤ e.t; omega, h3⟩, hl, hs⟩
  · show isName (fdB e.n).data.toList = true
    rw [fdB_list, e1, name_fold]; exact h1
  · show foldL (fdB e.n).data.toList = (fdB e.n).data.toList
    rw [fdB_list, e1, fold_twice]

theorem left_ok {L : List En} (h : ∀ e ∈ L, OkE e) (n : ByteArray) (t now : Int) : ∀ e ∈ leftP L n t now, OkE e := fun e he => h e ((List.mem_filter.1 he).1)
theorem cut_mem {most : Nat} {L : List En} {e : En} (h : e ∈ cutP most L) : e ∈ L := by
  unfold cutP at h
  split at h
  · exact List.mem_of_mem_eraseIdx h
  · exact h
theorem cut_len {most : Nat} {L : List En} (h : L.length ≤ most) (hm : 1 ≤ most) : (cutP most L).length + 1 ≤ most := by
  unfold cutP
  split
  · rename_i e; rw [List.length_eraseIdx_of_lt (minP_lt (by omega))]; omega
  · omega
theorem put_ok {most : Nat} {L : List En} {e : En} {now : Int} (h : ∀ e ∈ L, OkE e) (hl : e.ds.length ≤ 8796093022000) (hs : ∀ d ∈ e.ds, d.size ≤ 140737488351232) : ∀ x ∈ putP most L e now, OkE x := by
  intro x hx
  unfold putP at hx
  split at hx
  · rename_i hc
    rcases List.mem_append.1 hx with hx | hx
    · exact left_ok h _ _ _ _ (cut_mem hx)
    · simp at hx; subst hx
      simp only [Bool.and_eq_true] at hc
      exact held_ok hc.1 hl hs
  · exact h x hx
theorem put_len {most : Nat} {L : List En} {e : En} {now : Int} (h : L.length ≤ most) (hm : 1 ≤ most) : (putP most L e now).length ≤ most := by
  unfold putP
  split
  · have h1 : (leftP L (fdB e.n) e.t now).length ≤ most := Nat.le_trans (List.length_filter_le _ _) h
    have := cut_len h1 hm
    simp; omega
  · exact h
theorem Dis.sub {L M : List En} (h : Dis L) (hs : M.Sublist L) : Dis M := List.Pairwise.sublist hs h
theorem cut_dis {most : Nat} {L : List En} (h : Dis L) : Dis (cutP most L) := by
  unfold cutP
  split
  · exact h.sub (List.eraseIdx_sublist _ _)
  · exact h
theorem Dis.snoc {L : List En} {e : En} (h : Dis L) (hn : ∀ x ∈ L, sameK e.n e.t x = false) : Dis (L ++ [e]) := by
  refine List.pairwise_append.2 ⟨h, List.pairwise_singleton _ _, fun x hx y hy => ?_⟩
  simp at hy
  subst hy
  exact sameK_symm (hn x hx)
theorem left_not {L : List En} {n : ByteArray} {t now : Int} {x : En} (h : x ∈ leftP L n t now) : sameK n t x = false := by
  unfold leftP at h
  have := (List.mem_filter.1 h).2
  simp only [Bool.and_eq_true, Bool.not_eq_true'] at this
  exact this.1
theorem put_dis {most : Nat} {L : List En} {e : En} {now : Int} (h : Dis L) : Dis (putP most L e now) := by
  unfold putP
  split
  · exact (cut_dis (h.filter _)).snoc (fun x hx => left_not (cut_mem hx))
  · exact h

/-- Striking one is striking all of its name and type. -/
theorem erase_filter : ∀ {L : List En} (_ : Dis L) {i : Nat} (hi : i < L.length), L.filter (fun y => !sameK L[i].n L[i].t y) = L.eraseIdx i := by
  intro L
  induction L with
  | nil => intro _ i hi; simp at hi
  | cons a L ih =>
    intro hd i hi
    have hd2 := List.pairwise_cons.1 hd
    cases i with
    | zero =>
      have : sameK a.n a.t a = true := sameK_iff.2 ⟨rfl, rfl⟩
      simp only [List.getElem_cons_zero, List.filter_cons, this, List.eraseIdx_cons_zero]
      simp only [Bool.not_true, Bool.false_eq_true, if_false]
      exact List.filter_eq_self.2 (fun y hy => by rw [hd2.1 y hy]; rfl)
    | succ i =>
      simp only [List.getElem_cons_succ, List.filter_cons, List.eraseIdx_cons_succ]
      have hi' : i < L.length := by simp at hi; omega
      have : sameK L[i].n L[i].t a = false := sameK_symm (hd2.1 _ (List.getElem_mem _))
      rw [this, Bool.not_false, if_pos rfl, ih hd2.2 hi']

/-- All, by names and types. -/
def befE (x e : En) : Bool := decide (cK x.n x.t e.n e.t < 0)
def insE (e : En) (out : List En) : List En := out.takeWhile (fun x => befE x e) ++ e :: out.dropWhile (fun x => befE x e)
def allP (L : List En) : List En := L.foldl (fun out e => insE e out) []
def RisE (L : List En) : Prop := L.Pairwise (fun x y => cK x.n x.t y.n y.t < 0)
theorem insE_perm (e : En) (out : List En) : (insE e out).Perm (e :: out) := by
  unfold insE
  have : (out.takeWhile (fun x => befE x e) ++ out.dropWhile (fun x => befE x e)) = out := List.takeWhile_append_dropWhile
  exact List.perm_middle.trans (by rw [this])
theorem insE_rise {e : En} {out : List En} (h : RisE out) (ho : ∀ x ∈ out, OkE x) (he : OkE e) (hn : ∀ x ∈ out, sameK e.n e.t x = false) : RisE (insE e out) := by
  unfold insE
  induction out with
  | nil => exact List.pairwise_singleton _ _
  | cons a out ih =>
    have h2 := List.pairwise_cons.1 h
    have ih2 := ih h2.2 (fun x hx => ho x (List.mem_cons_of_mem _ hx)) (fun x hx => hn x (List.mem_cons_of_mem _ hx))
    cases hb : befE a e with
    | true =>
      rw [List.takeWhile_cons_of_pos (p := fun x => befE x e) hb, List.dropWhile_cons_of_pos (p := fun x => befE x e) hb]
      refine List.pairwise_cons.2 ⟨fun x hx => ?_, ih2⟩
      rcases List.mem_append.1 hx with hx | hx
      · exact h2.1 x ((List.takeWhile_sublist _).subset hx)
      · rcases List.mem_cons.1 hx with rfl | hx
        · unfold befE at hb; simpa using hb
        · exact h2.1 x (List.dropWhile_sublist _ |>.subset hx)
    | false =>
      rw [List.takeWhile_cons_of_neg (p := fun x => befE x e) (by rw [hb]; simp), List.dropWhile_cons_of_neg (p := fun x => befE x e) (by rw [hb]; simp), List.nil_append]
      have hlt : cK e.n e.t a.n a.t < 0 := by
        unfold befE at hb
        simp only [decide_eq_false_iff_not] at hb
        have h3 := cK_anti a.n a.t e.n e.t
        have h4 : cK a.n a.t e.n e.t ≠ 0 := fun e' => by
          have h5 := cK_zero (ho a (List.mem_cons_self ..)).k he.k e'
          have h6 := hn a (List.mem_cons_self ..)
          rw [sameK_iff.2 h5] at h6
          cases h6
        omega
      refine List.pairwise_cons.2 ⟨fun x hx => ?_, h⟩
      rcases List.mem_cons.1 hx with rfl | hx
      · exact hlt
      · exact cK_trans hlt (h2.1 x hx)
theorem all_fold : ∀ (L out : List En), (L.foldl (fun out e => insE e out) out).Perm (out ++ L) := by
  intro L
  induction L with
  | nil => intro out; simp
  | cons e L ih =>
    intro out
    refine (ih (insE e out)).trans ?_
    refine ((insE_perm e out).append_right L).trans ?_
    exact List.perm_middle.symm
theorem all_perm (L : List En) : (allP L).Perm L := by have := all_fold L []; rw [List.nil_append] at this; exact this
theorem all_rise_fold : ∀ (L out : List En), RisE out → (∀ x ∈ out, OkE x) → (∀ x ∈ L, OkE x) → Dis L → (∀ x ∈ L, ∀ y ∈ out, sameK x.n x.t y = false) → RisE (L.foldl (fun out e => insE e out) out) := by
  intro L
  induction L with
  | nil => intro out h _ _ _ _; exact h
  | cons e L ih =>
    intro out h ho hL hd hn
    have hd2 := List.pairwise_cons.1 hd
    refine ih _ (insE_rise h ho (hL e (List.mem_cons_self ..)) (hn e (List.mem_cons_self ..))) (fun x hx => ?_) (fun x hx => hL x (List.mem_cons_of_mem _ hx)) hd2.2 (fun x hx y hy => ?_)
    · rcases List.mem_cons.1 ((insE_perm e out).mem_iff.1 hx) with rfl | hx
      · exact hL x (List.mem_cons_self ..)
      · exact ho x hx
    · rcases List.mem_cons.1 ((insE_perm e out).mem_iff.1 hy) with rfl | hy
      · exact sameK_symm (hd2.1 x hx)
      · exact hn x (List.mem_cons_of_mem _ hx) y hy
theorem all_rise {L : List En} (ho : ∀ x ∈ L, OkE x) (hd : Dis L) : RisE (allP L) := all_rise_fold L [] List.Pairwise.nil (fun x hx => by simp at hx) ho hd (fun _ _ y hy => by simp at hy)
/-- Two rising rows of the same entries are one. -/
theorem rise_one : ∀ {L M : List En}, RisE L → RisE M → L.Perm M → L = M := by
  intro L
  induction L with
  | nil => intro M _ _ hp; exact (List.Perm.nil_eq hp)
  | cons a L ih =>
    intro M hL hM hp
    cases M with
    | nil => exact absurd hp.length_eq (by simp)
    | cons b M =>
      have hL2 := List.pairwise_cons.1 hL
      have hM2 := List.pairwise_cons.1 hM
      have hab : a = b := by
        rcases List.mem_cons.1 (hp.mem_iff.1 (List.mem_cons_self ..)) with h | h
        · exact h
        · rcases List.mem_cons.1 (hp.mem_iff.2 (List.mem_cons_self ..)) with h' | h'
          · exact h'.symm
          · have h1 := hM2.1 a h
            have h2 := hL2.1 b h'
            have := cK_anti a.n a.t b.n b.t
            omega
      subst hab
      rw [ih hL2.2 hM2.2 (List.Perm.cons_inv hp)]
theorem all_len (L : List En) : (allP L).length = L.length := (all_perm L).length_eq

end Go.Proofs.Ytnjgdfmldjgloaa
