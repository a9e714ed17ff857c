/- What Fold, last, Same, Above, Parent, Last and Child of the document's answers give, for every argument. -/
import Derived.Test.YtphhljbeaklikaaXP4
import Derived.Test.YtphhljbeaklikaaXP3
import Derived.Deep.RegionWith
import Derived.RegionTactic
import Derived.Deep.RegionLaw
namespace Go.Proofs.Ytphhljbeaklikaa
open Go.RowKit
open Pl

theorem foldK_still {l : List UInt8} {k : Nat} (h : k < l.length) (hb : fb l[k] = l[k]) : foldK l (k + 1) = foldK l k := by
  rw [← foldK_set l k h, hb]
  apply List.ext_getElem (by simp)
  intro j h1 h2
  rw [List.getElem_set]
  split
  · rename_i e; subst e; rw [foldK_at l _ h]
  · rfl

theorem refFold_no (s : ByteArray) (w : World) (hs : s.size ≤ maxLen) (h : isName s.data.toList = false) :
    Calls Try.prog 29 #[.string s] w fun e w' => e = .returned (.string ⟨(foldR s.data.toList).toArray⟩) ∧ Below w.heap.size w w' := by
  rw [foldR_no h]
  go_enter Try.func29, Try.ntmps29
  go_wp2_with (go_at_call 36; refine (places_any _ _ hs).mono ?_; rintro e w' ⟨v, rfl, hb, hp⟩)
  go_ret
  exact ⟨rfl, hb⟩

/-- The place of a name's label, and the label's length there. -/
theorem name_at {s : ByteArray} (h : isName s.data.toList = true) (i : Nat) (hi : i < (labs s.data.toList).length) :
    ∃ hp : pos (labs s.data.toList) i < s.data.toList.length, (s.data.toList[pos (labs s.data.toList) i]'hp).toNat ≤ 63 := by
  obtain ⟨e1, e2, _, _⟩ := enc_of h
  have hp : pos (labs s.data.toList) i < s.data.toList.length := by have := pos_in h i; rw [data_len]; exact this
  refine ⟨hp, ?_⟩
  have h1 := pos_at (labs s.data.toList) i hi
  have e : ∀ (a b : List UInt8) (k : Nat) (ha : k < a.length) (hb : k < b.length), a = b → a[k] = b[k] := by
    intro a b k ha hb e; subst e; rfl
  rw [e _ _ _ hp (pos_lt _ _) e1, h1, len_byte (e2 _ (List.getElem_mem _)).2]
  exact (e2 _ (List.getElem_mem _)).2

set_option maxRecDepth 20000 in
set_option maxHeartbeats 2000000 in
theorem refFold_yes (s : ByteArray) (w : World) (h : isName s.data.toList = true) :
    Calls Try.prog 29 #[.string s] w fun e w' => e = .returned (.string ⟨(foldR s.data.toList).toArray⟩) ∧ Below w.heap.size w w' := by
  rw [foldR_yes h]
  have h255 := name_size h
  have hsl := data_len s
  have hs : s.size ≤ maxLen := by unfold maxLen; omega
  have h127 := few h
  go_enter Try.func29, Try.ntmps29
  go_wp2_with (first
    | (go_at_call 36; refine (places_any _ _ hs).mono ?_; rintro e w1 ⟨v, rfl, hb1, hp⟩; obtain ⟨gp, cap, qs, rfl, hpl, hown⟩ := hp h; obtain ⟨n, hn⟩ : ∃ n, n = qs.length := ⟨_, rfl⟩; rw [← hn] at hown ⊢; have hq := places_pos h hpl; have HN : Hid (n = (labs s.data.toList).length + 1) := hn.trans hq.1; have HNQ : Hid (n = qs.length) := hn; have HQ : Hid (∀ i, i ≤ (labs s.data.toList).length → qs.getD i 0 = pos (labs s.data.toList) i) := hq.2; have hn3 : n ≤ 128 := (by have := hn.trans hq.1; omega); have hn4 : 1 ≤ n := (by have := hn.trans hq.1; omega); clear hp hpl hn hq)
    | (refine wpList_bytesB _ rfl (.tmp 15) rfl s rfl ?_; intro cap2 w2 hrow hg hsz))
  have hgl1 : gp < w1.heap.size := (hown.lt gp rfl).2
  have hgb : w.heap.size ≤ gp := (hown.lt gp rfl).1
  have hpc : ∀ j, j < n → w2.cell? ⟨gp, j, none⟩ = some (.int .i64 (pos (labs s.data.toList) j : Nat)) := fun j hj => by
    have e : w1.cell? ⟨gp, j, none⟩ = some (.int .i64 (pos (labs s.data.toList) j : Nat)) := by
      rw [hown.cellAt j (by omega)]
      have hj' : j < qs.length := by rw [← HNQ.out]; exact hj
      rw [← HQ.out j (by have := HN.out; omega)]
      simp [hj', iv]
    exact hg.cell e (by simp)
  have hb2 : Below w.heap.size w w2 := next hb1 (below_of hg)
  obtain ⟨go, hgo⟩ : ∃ go, go = w1.heap.size := ⟨_, rfl⟩
  rw [← hgo] at hrow ⊢
  have hne : gp ≠ go := by omega
  have hgo2 : w.heap.size ≤ go := by omega
  have HROW : Hid (BRow w2 go (foldK s.data.toList (pos (labs s.data.toList) 0))) := by unfold Hid; rw [pos_zero, foldK_zero]; exact hrow
  clear hown hrow hg hsz hb1 hgo hgl1
  go_loopw [6] (fun i wr => ∃ (k : Nat), k + 1 ≤ n ∧ i = .int .i64 k ∧ Hid (BRow wr go (foldK s.data.toList (pos (labs s.data.toList) k))) ∧ (∀ j, j < n → wr.cell? ⟨gp, j, none⟩ = some (.int .i64 (pos (labs s.data.toList) j : Nat))) ∧ Below w.heap.size w wr) (fun i _ => n - (intOf i).toNat)
  case atStart => exact ⟨0, by omega, rfl, HROW, hpc, hb2⟩
  case round =>
    clear hpc HROW hb2
    obtain ⟨k, hk, rfl, HR, hpc, hbel⟩ := hrel
    by_cases hkn : k + 1 < n
    · have hkn2 : (k : Int) + 1 < (n : Int) := by omega
      obtain ⟨hPl, h63⟩ := name_at h k (by have := HN.out; omega)
      have hsucc := pos_succ (labs s.data.toList) k (by have := HN.out; omega)
      have hQs := pos_in h (k + 1)
      have hc1 := hpc k (by omega)
      have hc2 := hpc (k + 1) hkn
      have HR2 : Hid (BRow wr go (foldK s.data.toList (pos (labs s.data.toList) k + 1))) := by
        unfold Hid; rw [foldK_still hPl (fb_small h63)]; exact HR
      obtain ⟨P, hP⟩ : ∃ P, P = pos (labs s.data.toList) k := ⟨_, rfl⟩
      obtain ⟨Q, hQ⟩ : ∃ Q, Q = pos (labs s.data.toList) (k + 1) := ⟨_, rfl⟩
      rw [← hP] at hc1 HR2 hsucc
      rw [← hQ] at hc2 hQs hsucc
      have HPC : Hid (∀ j, j < n → wr.cell? ⟨gp, j, none⟩ = some (.int .i64 (pos (labs s.data.toList) j : Nat))) := hpc
      have HQQ : Hid (Q = pos (labs s.data.toList) (k + 1)) := hQ
      have hPQ : P + 1 ≤ Q := by omega
      clear hP hQ hpc hsucc h63 hPl HR
      go_wp2
      go_loopw [7] (fun i wq => ∃ (j : Nat), P + 1 ≤ j ∧ j ≤ Q ∧ i = .int .i64 j ∧ Hid (BRow wq go (foldK s.data.toList j)) ∧ (∀ j, j < n → wq.cell? ⟨gp, j, none⟩ = some (.int .i64 (pos (labs s.data.toList) j : Nat))) ∧ Below w.heap.size w wq) (fun i _ => Q - (intOf i).toNat)
      case atStart => exact ⟨P + 1, Nat.le_refl _, hPQ, by go_num, HR2, HPC.out, hbel⟩
      case round =>
        clear hc1 hc2 HR2 HPC hbel
        obtain ⟨j, hPj, hjQ, rfl, HRj, hpcj, hbelj⟩ := hrel
        have hc2 := hpcj (k + 1) hkn
        rw [← HQQ.out] at hc2
        have HPJ : Hid (∀ j, j < n → wr.cell? ⟨gp, j, none⟩ = some (.int .i64 (pos (labs s.data.toList) j : Nat))) := hpcj
        clear hpcj
        by_cases hjl : j < Q
        · have hjs : j < s.size := by omega
          have hjl2 : j < s.data.toList.length := by omega
          have hjk : j < (foldK s.data.toList j).length := by rw [foldK_len]; exact hjl2
          have hb8 := (s[j]).toNat_lt
          have hcell : wr.cell? ⟨go, j, none⟩ = some (.int .u8 (s[j].toNat : Int)) := by
            rw [HRj.out.cell j hjk, foldK_at _ _ hjl2]; rfl
          by_cases h65 : 65 ≤ s[j].toNat ∧ s[j].toNat ≤ 90
          · have hfro := HRj.out.frozen j hjk
            have hst := HRj.out.stored j hjk (fb s[j])
            have hfn : ((fb s[j]).toNat : Int) = (s[j].toNat : Int) + 32 := by rw [fb_nat, if_pos h65]; omega
            rw [hfn] at hst
            rw [show s[j] = s.data.toList[j] from rfl, foldK_set _ _ hjl2] at hst
            have HST : Hid (BRow (wr.setCell ⟨go, j, none⟩ (.int .u8 ((s[j].toNat : Int) + 32))) go (foldK s.data.toList (j + 1)) ∧ wr.grownBy (wr.setCell ⟨go, j, none⟩ (.int .u8 ((s[j].toNat : Int) + 32))) (some go)) := hst
            have h65a := h65.1
            have h65b := h65.2
            clear hst hfn h65
            go_wp2
            go_roundw
            case rel => exact ⟨j + 1, by omega, by omega, by go_num, HST.out.1, fun i hi => HST.out.2.cell (HPJ.out i hi) (by intro e; exact hne (Option.some.inj e)), hbelj.grown HST.out.2 hbelj.size (fun q e => by have := Option.some.inj e; omega)⟩
            case measure => simp [intOf]; omega
          · have HK : Hid (BRow wr go (foldK s.data.toList (j + 1))) := by
              have h66 : ¬ (65 ≤ s.data.toList[j].toNat ∧ s.data.toList[j].toNat ≤ 90) := h65
              unfold Hid; rw [foldK_still hjl2 (by unfold fb; rw [if_neg h66])]; exact HRj
            by_cases h65a : 65 ≤ s[j].toNat
            · have h65b : decide ((s[j].toNat : Int) ≤ 90) = false := by simp; omega
              clear h65
              go_wp2
              go_roundw
              case rel => exact ⟨j + 1, by omega, by omega, by go_num, HK, HPJ.out, hbelj⟩
              case measure => simp [intOf]; omega
            · have h65b : decide ((65 : Int) ≤ (s[j].toNat : Int)) = false := by simp; omega
              clear h65
              go_wp2
              go_roundw
              case rel => exact ⟨j + 1, by omega, by omega, by go_num, HK, HPJ.out, hbelj⟩
              case measure => simp [intOf]; omega
        · have hjq : j = Q := by omega
          have HJQ : Hid (j = Q) := hjq
          clear hjq
          go_wp2
          go_roundw
          case rel => exact ⟨k + 1, by omega, by go_num, by unfold Hid; rw [← HQQ.out, ← HJQ.out]; exact HRj, HPJ.out, hbelj⟩
          case measure => simp [intOf]; omega
    · have HA : Hid (BRow wr go (foldL s.data.toList)) := by
        have hke : k = (labs s.data.toList).length := by have := HN.out; omega
        obtain ⟨e1, _, _, _⟩ := enc_of h
        have hlast := pos_last (labs s.data.toList)
        rw [← e1] at hlast
        have h1 := pos_end (labs s.data.toList) (labs s.data.toList).length (Nat.le_refl _)
        have hp : pos (labs s.data.toList) (labs s.data.toList).length < s.data.toList.length := by omega
        have e : ∀ (a b : List UInt8) (k : Nat) (ha : k < a.length) (hb : k < b.length), a = b → a[k] = b[k] := by
          intro a b k ha hb e; subst e; rfl
        have h2 : s.data.toList[pos (labs s.data.toList) (labs s.data.toList).length]'hp = 0 := (e _ _ _ hp (pos_lt _ _) e1).trans h1
        have h3 := foldK_still hp (by rw [h2]; decide)
        have h4 := HR.out
        rw [hke, ← h3, foldK_all _ _ (by omega)] at h4
        exact h4
      have hn : (foldL s.data.toList).length = s.size := by rw [fold_len]; exact hsl
      have HNN : Hid ((foldL s.data.toList).length = s.size) := hn
      clear hn hpc
      go_wp2_with (refine wpList_stringC _ rfl (.tmp 58) rfl go s.size cap2 (foldL s.data.toList) rfl HNN.out HA.out ?_)
      go_ret
      exact ⟨rfl, hbel⟩

theorem refFold_any (s : ByteArray) (w : World) (hs : s.size ≤ maxLen) :
    Calls Try.prog 29 #[.string s] w fun e w' => e = .returned (.string ⟨(foldR s.data.toList).toArray⟩) ∧ Below w.heap.size w w' := by
  cases h : isName s.data.toList with
  | false => exact refFold_no s w hs h
  | true => exact refFold_yes s w h

end Go.Proofs.Ytphhljbeaklikaa

/- What last, Same, Above, Parent, Last and Child of the document's answers give, for every argument. -/
namespace Go.Proofs.Ytphhljbeaklikaa
open Go.RowKit
open Pl

theorem refFold_as (s t : ByteArray) (w : World) (hs : s.size ≤ maxLen) (h : foldR s.data.toList = t.data.toList) :
    Calls Try.prog 29 #[.string s] w fun e w' => e = .returned (.string t) ∧ Below w.heap.size w w' := by
  have := refFold_any s w hs
  rw [h] at this
  exact this
theorem cnt_labs {l : List UInt8} (h : isName l = true) : cnt l = (labs l).length := (enc_of h).2.2.1

theorem list_test (a b : ByteArray) : (a.toList == b.toList) = decide (a.data.toList = b.data.toList) := by
  rw [ByteArray.toList_eq, ByteArray.toList_eq, Bool.eq_iff_iff]; simp

set_option maxRecDepth 20000 in
set_option maxHeartbeats 1000000 in
theorem refSame_any (a b : ByteArray) (w : World) (ha : a.size ≤ maxLen) (hb : b.size ≤ maxLen) :
    Calls Try.prog 22 #[.string a, .string b] w fun e w' => e = .returned (.bool (sameB a.data.toList b.data.toList)) ∧ Below w.heap.size w w' := by
  have hbel : Below w.heap.size w w := Below.refl _ _
  cases h1 : isName a.data.toList with
  | false =>
    have HR : Hid (false = sameB a.data.toList b.data.toList) := by unfold Hid sameB; rw [h1]; rfl
    go_enter Try.func22, Try.ntmps22
    go_wp2_with (go_at_call 21; refine (refMay_as a false _ ha h1).mono ?_; rintro e w1 ⟨rfl, b1⟩; replace hbel := next hbel b1; clear b1)
    go_ret
    exact ⟨ret_bool HR.out, hbel⟩
  | true =>
    cases h2 : isName b.data.toList with
    | false =>
      have HR : Hid (false = sameB a.data.toList b.data.toList) := by unfold Hid sameB; rw [h1, h2]; rfl
      have t1 : True := trivial
      have t2 : True := trivial
      go_enter Try.func22, Try.ntmps22
      go_wp2_with (first
        | (go_at_call 21; have _t := t1; refine (refMay_as a true _ ha h1).mono ?_; rintro e w1 ⟨rfl, b1⟩; replace hbel := next hbel b1; clear b1 t1)
        | (go_at_call 21; have _t := t2; refine (refMay_as b false _ hb h2).mono ?_; rintro e w1 ⟨rfl, b1⟩; replace hbel := next hbel b1; clear b1 t2))
      go_ret
      exact ⟨ret_bool HR.out, hbel⟩
    | true =>
      obtain ⟨F, hF⟩ : ∃ F : ByteArray, foldR a.data.toList = F.data.toList := ⟨⟨(foldR a.data.toList).toArray⟩, by simp⟩
      obtain ⟨G, hG⟩ : ∃ G : ByteArray, foldR b.data.toList = G.data.toList := ⟨⟨(foldR b.data.toList).toArray⟩, by simp⟩
      have HF : Hid (foldR a.data.toList = F.data.toList) := hF
      have HG : Hid (foldR b.data.toList = G.data.toList) := hG
      have HR : Hid ((F.toList == G.toList) = sameB a.data.toList b.data.toList) := by
        unfold Hid sameB
        rw [list_test, ← hF, ← hG, h1, h2, foldR_yes h1, foldR_yes h2]
        simp
      clear hF hG
      have t1 : True := trivial
      have t2 : True := trivial
      have t3 : True := trivial
      have t4 : True := trivial
      go_enter Try.func22, Try.ntmps22
      go_wp2_with (first
        | (go_at_call 21; have _t := t1; refine (refMay_as a true _ ha h1).mono ?_; rintro e w1 ⟨rfl, b1⟩; replace hbel := next hbel b1; clear b1 t1)
        | (go_at_call 21; have _t := t2; refine (refMay_as b true _ hb h2).mono ?_; rintro e w1 ⟨rfl, b1⟩; replace hbel := next hbel b1; clear b1 t2)
        | (go_at_call 29; have _t := t3; refine (refFold_as a F _ ha HF.out).mono ?_; rintro e w1 ⟨rfl, b1⟩; replace hbel := next hbel b1; clear b1 t3)
        | (go_at_call 29; have _t := t4; refine (refFold_as b G _ hb HG.out).mono ?_; rintro e w1 ⟨rfl, b1⟩; replace hbel := next hbel b1; clear b1 t4))
      go_ret
      exact ⟨ret_bool HR.out, hbel⟩
theorem refSame_as (a b : ByteArray) (v : Bool) (w : World) (ha : a.size ≤ maxLen) (hb : b.size ≤ maxLen) (h : sameB a.data.toList b.data.toList = v) :
    Calls Try.prog 22 #[.string a, .string b] w fun e w' => e = .returned (.bool v) ∧ Below w.heap.size w w' := by rw [← h]; exact refSame_any a b w ha hb

end Go.Proofs.Ytphhljbeaklikaa

/- What Parent, Last and Child of the document's answers give, for every argument. -/
namespace Go.Proofs.Ytphhljbeaklikaa
open Go.RowKit
open Pl

end Go.Proofs.Ytphhljbeaklikaa

/- What labels of the document's answers gives, for every string. -/
namespace Go.Proofs.Ytphhljbeaklikaa
open Go.RowKit
open Pl

theorem info9 : (Try.prog.info? 9).map (fun i => (i.zero, i.size, i.bytes)) = some (some (.string ⟨#[]⟩), 1, 16) := by kernel_rfl

theorem ne_block {v : Value} {gc g sz n cap : Nat} (h3 : v.ownBlock = some g ∨ sz ≤ g) (hne : v.ownBlock ≠ some gc) (hlt : gc < sz) : Value.ownBlock (.slice (some ⟨g, 0, none⟩) n cap) ≠ some gc := by
  intro e
  have e' : g = gc := by simpa [Value.ownBlock] using e
  subst e'
  rcases h3 with h3 | h3
  · exact hne h3
  · omega

theorem grown_back {w w' : World} {o : Obj} {r : Option Nat} (h3 : (w.alloc o).drew.grownBy w' r) : w.grownBy w' r := by
  refine ⟨h3.os, h3.tape, h3.output, ?_, fun k hk hne => ?_⟩
  · have : (w.alloc o).heap.size ≤ w'.heap.size := h3.size
    simp at this
    omega
  · have e1 := h3.block k (by show k < (w.alloc _).heap.size; simp; omega) hne
    exact e1.trans (Below.heap_alloc w _ k hk)
theorem new_cells (w : World) (t : ByteArray) : ∀ j u, [Value.string t][j]? = some u → (w.alloc (.cells #[.string t] 9)).drew.cell? ((⟨w.heap.size, 0, none⟩ : Addr).add j) = some u := by
  simpa using World.news_of_block (heap_alloc_new w (.cells #[.string t] 9))

/-- Strings that are the labels of a name, folded, the last one first. -/
def Strs (l : List UInt8) (ss : List ByteArray) : Prop := ss.map (fun s => s.data.toList) = fl l

theorem take_step {l : List (List UInt8)} {m J : Nat} (hm : l.length = m) (hJ : J < m) {T : List UInt8} (hT : T = l[m - 1 - J]'(by omega)) : l.take (m - 1 - J) ++ [T] = l.take (m - J) := by
  rw [show m - J = m - 1 - J + 1 from by omega, List.take_succ_eq_append_getElem (by omega), hT]

theorem labels_no (s : ByteArray) (w : World) (hs : s.size ≤ maxLen) (h : isName s.data.toList = false) :
    Calls Try.prog 37 #[.string s] w fun e w' => e = .returned (.slice none 0 0) ∧ Below w.heap.size w w' := by
  go_enter Try.func37, Try.ntmps37
  go_wp2_with (go_at_call 21; refine (refMay_as s false _ hs h).mono ?_; rintro e w1 ⟨rfl, b1⟩)
  go_ret
  exact ⟨rfl, b1⟩

set_option maxRecDepth 20000 in
set_option maxHeartbeats 2000000 in
theorem labels_yes (s : ByteArray) (w : World) (h : isName s.data.toList = true) :
    Calls Try.prog 37 #[.string s] w fun e w' => ∃ v ss, e = .returned v ∧ w'.ownsRow w.heap.size 9 1 v (fl s.data.toList).length (ss.map Value.string) ∧ Strs s.data.toList ss ∧ Below w.heap.size w w' := by
  have h255 := name_size h
  have hs : s.size ≤ maxLen := by unfold maxLen; omega
  obtain ⟨F, hF⟩ : ∃ F : ByteArray, F.data.toList = foldL s.data.toList := ⟨⟨(foldL s.data.toList).toArray⟩, by simp⟩
  have hFn : isName F.data.toList = true := by rw [hF, name_fold]; exact h
  have hFl : labs F.data.toList = (labs s.data.toList).map foldL := by rw [hF, labs_fold]
  have HFO : Hid (foldR s.data.toList = F.data.toList) := by unfold Hid; rw [foldR_yes h, hF]
  have hF255 := name_size hFn
  have hFs : F.size ≤ maxLen := by unfold maxLen; omega
  obtain ⟨m, hm⟩ : ∃ m, m = (labs F.data.toList).length := ⟨_, rfl⟩
  have HM : Hid (m = (labs F.data.toList).length) := hm
  have hm127 : m ≤ 127 := by rw [hm]; exact few hFn
  have hfl : fl s.data.toList = (labs F.data.toList).reverse := by unfold fl; rw [hFl]
  have HFL : Hid (fl s.data.toList = (labs F.data.toList).reverse) := hfl
  have HFM : Hid ((fl s.data.toList).length = m) := by unfold Hid; rw [hfl, List.length_reverse, hm]
  have hbel : Below w.heap.size w w := Below.refl _ _
  clear hF hFl hm hfl
  go_enter Try.func37, Try.ntmps37
  go_wp2_with (first
    | (go_at_call 21; refine (refMay_as s true _ hs h).mono ?_; rintro e w1 ⟨rfl, b1⟩; replace hbel := next hbel b1; clear b1)
    | (go_at_call 29; refine (refFold_as s F _ hs HFO.out).mono ?_; rintro e w2 ⟨rfl, b1⟩; replace hbel := next hbel b1; clear b1)
    | (go_at_call 36; refine (places_any _ _ hFs).mono ?_; rintro e w3 ⟨v, rfl, b1, hp⟩; rw [hFn]; obtain ⟨gp, cap, qs, rfl, hpl, hown⟩ := hp hFn; have hq := places_pos hFn hpl; have hql : qs.length = m + 1 := hq.1.trans (by rw [HM.out]); have hqq := hq.2; have hpc : ∀ j, j ≤ m → w3.cell? ⟨gp, j, none⟩ = some (.int .i64 (pos (labs F.data.toList) j : Nat)) := (fun j hj => by rw [hown.cellAt j (by omega)]; have hj' : j < qs.length := (by omega); rw [← hqq j (by have := HM.out; omega)]; simp [hj', iv]); have hgp := hown.lt gp rfl; rw [hql]; replace hbel := next hbel b1; clear b1 hp hpl hown hq hql hqq))
  go_loopw [6, 7] (fun v i wr => ∃ (n : Nat) (ss : List ByteArray), wr.ownsRow w.heap.size 9 1 v n (ss.map Value.string) ∧ n ≤ m ∧ v.ownBlock ≠ some gp ∧ (∀ j, j ≤ m → wr.cell? ⟨gp, j, none⟩ = some (.int .i64 (pos (labs F.data.toList) j : Nat))) ∧ gp < wr.heap.size ∧ Below w.heap.size w wr ∧ ((∃ J : Nat, J < m ∧ n = m - 1 - J ∧ i = .int .i64 J ∧ Hid (ss.map (fun s => s.data.toList) = (fl s.data.toList).take (m - 1 - J))) ∨ (i = .int .i64 (-1) ∧ n = m ∧ Hid (Strs s.data.toList ss)))) (fun _ i _ => (intOf i + 1).toNat)
  case atStart =>
    refine ⟨0, [], World.ownsRow_nil _ _ _ _, Nat.zero_le _, by simp [Value.ownBlock], hpc, hgp.2, hbel, ?_⟩
    rcases Nat.eq_zero_or_pos m with h0 | h0
    · refine .inr ⟨by go_num, h0.symm, ?_⟩
      unfold Hid Strs
      have := HFM.out
      rw [List.eq_nil_of_length_eq_zero (l := fl s.data.toList) (by omega)]; rfl
    · exact .inl ⟨m - 1, by omega, by omega, by go_num, by unfold Hid; simp⟩
  case round =>
    clear hpc hgp hbel
    obtain ⟨n, ss, hown, hnm, hne, hpc, hgp, hbel, hi⟩ := hrel
    rcases hi with ⟨J, hJ, hn, rfl, HT⟩ | ⟨rfl, hn, HSS⟩
    · have HNJ : Hid (n = m - 1 - J) := hn
      clear hn
      have hc1 := hpc J (by omega)
      have hc2 := hpc (J + 1) (by omega)
      have hsucc := pos_succ (labs F.data.toList) J (by have := HM.out; omega)
      have hQF := pos_in hFn (J + 1)
      have HLX : Hid ((F.extract (pos (labs F.data.toList) J + 1) (pos (labs F.data.toList) (J + 1))).data.toList = (fl s.data.toList)[m - 1 - J]'(by have := HFM.out; omega)) := by
        unfold Hid
        rw [lab_ext hFn J (by have := HM.out; omega)]
        have e : ∀ (a b : List (List UInt8)) (i j : Nat) (ha : i < a.length) (hb : j < b.length), b = a.reverse → i + j + 1 = a.length → a[i] = b[j] := by
          intro a b i j ha hb e f; subst e; rw [List.getElem_reverse]; congr 1; omega
        exact e _ _ _ _ _ _ HFL.out (by have := HM.out; omega)
      obtain ⟨P, hP⟩ : ∃ P, P = pos (labs F.data.toList) J := ⟨_, rfl⟩
      obtain ⟨Q, hQ⟩ : ∃ Q, Q = pos (labs F.data.toList) (J + 1) := ⟨_, rfl⟩
      rw [← hP] at hc1 HLX hsucc
      rw [← hQ] at hc2 HLX hQF hsucc
      have hPQ : P + 1 ≤ Q := by omega
      have HPC : Hid (∀ j, j ≤ m → wr.cell? ⟨gp, j, none⟩ = some (.int .i64 (pos (labs F.data.toList) j : Nat))) := hpc
      have HOW : Hid (wr.ownsRow w.heap.size 9 1 u6 n (ss.map Value.string)) := hown
      have hJ0 : (0 : Int) ≤ (J : Int) := by omega
      have hJ1 : (J : Int) < (m : Int) + 1 := by omega
      have hJ2 : (J : Int) + 1 < (m : Int) + 1 := by omega
      clear hpc hP hQ hown hsucc
      obtain ⟨i0, hi, hz0, hz1, hz2⟩ := info_parts info9
      have hw1 : IntKind.i64.wrap ((J : Int) + 1) = (J : Int) + 1 := by rw [IntKind.wrap_i64]; omega
      have hw2 : IntKind.i64.wrap ((P : Int) + 1) = (P : Int) + 1 := by rw [IntKind.wrap_i64]; omega
      have hJ3 : (0 : Int) ≤ (J : Int) + 1 := by omega
      have hJ4 : ((J : Int) + 1).toNat = J + 1 := by omega
      have hcut : ∀ u : World, (Instr.slice 9 (.string F) (some (.int .i64 ((P : Int) + 1))) (some (.int .i64 (Q : Int))) none).run Try.prog u = .ok (.string (F.extract (P + 1) Q)) u := fun u => by
        have := run_slice_string (P := Try.prog) u 9 F .i64 .i64 ((P : Int) + 1) (Q : Int) Try.underlying9 (by omega) (by omega) (by omega)
        rw [this]; rfl
      go_wp2
      go_region_law ((refine step_append_lies _ (by rfl) _ _ 53 (by rfl) w.heap.size 9 i0 (.string ⟨#[]⟩) 1 16 Try.underlying53 hi hz0 hz1 hz2 rfl (by decide) _ n (ss.map Value.string) (by rfl) ((HOW.out.alloc _).drew) ⟨wr.heap.size, 0, none⟩ 1 1 [.string (F.extract (P + 1) Q)] (by rfl) rfl (new_cells wr _) (by simp [Value.oneCell']) (by omega) (by unfold maxLen; omega) (by omega) (by show w.heap.size ≤ (wr.alloc _).heap.size; have := hbel.size; simp; omega) (wr.heap.size + 1) (by show (wr.alloc _).heap.size = _; simp) ?_; intro g cap2 w5 hown5 hgrow hat hlt))
      all_goals
        have HO5 : Hid (w5.ownsRow w.heap.size 9 1 (.slice (some ⟨g, 0, none⟩) (n + 1) cap2) (n + 1) ((ss ++ [F.extract (P + 1) Q]).map Value.string)) := by unfold Hid; rw [List.map_append]; exact hown5
        have HG5 : Hid (wr.grownBy w5 u6.ownBlock ∧ (u6.ownBlock = some g ∨ wr.heap.size ≤ g) ∧ g < w5.heap.size) := ⟨grown_back hgrow, hat.imp id (fun e => by omega), hlt⟩
        clear hown5 hgrow hat hlt
        go_wp2
        go_roundw
        case rel =>
          have hnj := HNJ.out
          refine ⟨n + 1, ss ++ [F.extract (P + 1) Q], HO5.out, by omega, ne_block HG5.out.2.1 hne hgp, fun j hj => HG5.out.1.cell (HPC.out j hj) (Ne.symm hne), Nat.lt_of_lt_of_le hgp HG5.out.1.size, hbel.grown HG5.out.1 hbel.size (fun k e => (HOW.out.lt k e).1), ?_⟩
          have HX : (ss ++ [F.extract (P + 1) Q]).map (fun s => s.data.toList) = (fl s.data.toList).take (m - J) := by
            rw [List.map_append, HT.out]
            exact take_step HFM.out hJ HLX.out
          rcases Nat.eq_zero_or_pos J with h0 | h0
          · refine .inr ⟨by subst h0; go_num, by omega, ?_⟩
            unfold Hid Strs
            rw [HX, List.take_of_length_le (by have := HFM.out; omega)]
          · exact .inl ⟨J - 1, by omega, by omega, by go_num, by unfold Hid; rw [HX, show m - 1 - (J - 1) = m - J from by omega]⟩
        case measure => simp [intOf]
    · have HO : Hid (wr.ownsRow w.heap.size 9 1 u6 (fl s.data.toList).length (ss.map Value.string)) := by unfold Hid; rw [HFM.out, ← hn]; exact hown
      clear hn hpc hown
      go_wp2
      go_ret
      exact ⟨_, ss, rfl, HO.out, HSS.out, hbel⟩

theorem labels_any (s : ByteArray) (w : World) (hs : s.size ≤ maxLen) :
    Calls Try.prog 37 #[.string s] w fun e w' => ∃ v ss, e = .returned v ∧ w'.ownsRow w.heap.size 9 1 v (fl s.data.toList).length (ss.map Value.string) ∧ Strs s.data.toList ss ∧ Below w.heap.size w w' := by
  cases h : isName s.data.toList with
  | true => exact labels_yes s w h
  | false =>
    have hf : fl s.data.toList = [] := by unfold fl; rw [labs_none h]; rfl
    refine (labels_no s w hs h).mono ?_
    rintro e w' ⟨rfl, hb⟩
    exact ⟨_, [], rfl, by rw [hf]; exact World.ownsRow_nil _ _ _ _, by unfold Strs; rw [hf]; rfl, hb⟩

end Go.Proofs.Ytphhljbeaklikaa
