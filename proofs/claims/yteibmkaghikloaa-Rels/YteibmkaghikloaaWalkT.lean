/- What labels of the document's answers gives, for every string. -/
import Derived.Test.YteibmkaghikloaaWalkS
import Derived.RegionTactic
import Derived.Deep.RegionLaw
namespace Go.Proofs.Yteibmkaghikloaa
open Go.RowKit
open Pl

theorem info9 : (Try.prog.info? 9).map (fun i => (i.zero, i.size, i.bytes)) = some (some (.string ⟨#[]⟩), 1, 16) := by kernel_rfl

theorem ne_block {v : Value} {gc g sz n cap : Nat} (h3 : v.ownBlock = some g ∨ sz ≤ g) (hne : v.ownBlock ≠ some gc) (hlt : gc < sz) : Value.ownBlock (.slice (some ⟨g, 0, none⟩) n cap) ≠ some gc := by
  intro e
  have e' : g = gc := by simpa [Value.ownBlock] using e
  subst e'
  rcases h3 with h3 | h3
  · exact hne h3
  · omega

theorem grown_back {w w' : World} {o : Obj} {r : Option Nat} (h3 : (w.alloc o).drew.grownBy w' r) : w.grownBy w' r := by
  refine ⟨h3.os, h3.tape, h3.output, ?_, fun k hk hne => ?_⟩
  · have : (w.alloc o).heap.size ≤ w'.heap.size := h3.size
    simp at this
    omega
  · have e1 := h3.block k (by show k < (w.alloc _).heap.size; simp; omega) hne
    exact e1.trans (Below.heap_alloc w _ k hk)
theorem new_cells (w : World) (t : ByteArray) : ∀ j u, [Value.string t][j]? = some u → (w.alloc (.cells #[.string t] 9)).drew.cell? ((⟨w.heap.size, 0, none⟩ : Addr).add j) = some u := by
  simpa using World.news_of_block (heap_alloc_new w (.cells #[.string t] 9))

/-- Strings that are the labels of a name, folded, the last one first. -/
def Strs (l : List UInt8) (ss : List ByteArray) : Prop := ss.map (fun s => s.data.toList) = fl l

theorem take_step {l : List (List UInt8)} {m J : Nat} (hm : l.length = m) (hJ : J < m) {T : List UInt8} (hT : T = l[m - 1 - J]'(by omega)) : l.take (m - 1 - J) ++ [T] = l.take (m - J) := by
  rw [show m - J = m - 1 - J + 1 from by omega, List.take_succ_eq_append_getElem (by omega), hT]

theorem labels_no (s : ByteArray) (w : World) (hs : s.size ≤ maxLen) (h : isName s.data.toList = false) :
    Calls Try.prog 39 #[.string s] w fun e w' => e = .returned (.slice none 0 0) ∧ Below w.heap.size w w' := by
  go_enter Try.func39, Try.ntmps39
  go_wp2_with (go_at_call 25; refine (refMay_as s false _ hs h).mono ?_; rintro e w1 ⟨rfl, b1⟩)
  go_ret
  exact ⟨rfl, b1⟩

set_option maxRecDepth 20000 in
set_option maxHeartbeats 2000000 in
theorem labels_yes (s : ByteArray) (w : World) (h : isName s.data.toList = true) :
    Calls Try.prog 39 #[.string s] w fun e w' => ∃ v ss, e = .returned v ∧ w'.ownsRow w.heap.size 9 1 v (fl s.data.toList).length (ss.map Value.string) ∧ Strs s.data.toList ss ∧ Below w.heap.size w w' := by
  have h255 := name_size h
  have hs : s.size ≤ maxLen := by unfold maxLen; omega
  obtain ⟨F, hF⟩ : ∃ F : ByteArray, F.data.toList = foldL s.data.toList := ⟨⟨(foldL s.data.toList).toArray⟩, by simp⟩
  have hFn : isName F.data.toList = true := by rw [hF, name_fold]; exact h
  have hFl : labs F.data.toList = (labs s.data.toList).map foldL := by rw [hF, labs_fold]
  have HFO : Hid (foldR s.data.toList = F.data.toList) := by unfold Hid; rw [foldR_yes h, hF]
  have hF255 := name_size hFn
  have hFs : F.size ≤ maxLen := by unfold maxLen; omega
  obtain ⟨m, hm⟩ : ∃ m, m = (labs F.data.toList).length := ⟨_, rfl⟩
  have HM : Hid (m = (labs F.data.toList).length) := hm
  have hm127 : m ≤ 127 := by rw [hm]; exact few hFn
  have hfl : fl s.data.toList = (labs F.data.toList).reverse := by unfold fl; rw [hFl]
  have HFL : Hid (fl s.data.toList = (labs F.data.toList).reverse) := hfl
  have HFM : Hid ((fl s.data.toList).length = m) := by unfold Hid; rw [hfl, List.length_reverse, hm]
  have hbel : Below w.heap.size w w := Below.refl _ _
  clear hF hFl hm hfl
  go_enter Try.func39, Try.ntmps39
  go_wp2_with (first
    | (go_at_call 25; refine (refMay_as s true _ hs h).mono ?_; rintro e w1 ⟨rfl, b1⟩; replace hbel := next hbel b1; clear b1)
    | (go_at_call 16; refine (refFold_as s F _ hs HFO.out).mono ?_; rintro e w2 ⟨rfl, b1⟩; replace hbel := next hbel b1; clear b1)
    | (go_at_call 34; refine (places_any _ _ hFs).mono ?_; rintro e w3 ⟨v, rfl, b1, hp⟩; rw [hFn]; obtain ⟨gp, cap, qs, rfl, hpl, hown⟩ := hp hFn; have hq := places_pos hFn hpl; have hql : qs.length = m + 1 := hq.1.trans (by rw [HM.out]); have hqq := hq.2; have hpc : ∀ j, j ≤ m → w3.cell? ⟨gp, j, none⟩ = some (.int .i64 (pos (labs F.data.toList) j : Nat)) := (fun j hj => by rw [hown.cellAt j (by omega)]; have hj' : j < qs.length := (by omega); rw [← hqq j (by have := HM.out; omega)]; simp [hj', iv]); have hgp := hown.lt gp rfl; rw [hql]; replace hbel := next hbel b1; clear b1 hp hpl hown hq hql hqq))
  go_loopw [6, 7] (fun v i wr => ∃ (n : Nat) (ss : List ByteArray), wr.ownsRow w.heap.size 9 1 v n (ss.map Value.string) ∧ n ≤ m ∧ v.ownBlock ≠ some gp ∧ (∀ j, j ≤ m → wr.cell? ⟨gp, j, none⟩ = some (.int .i64 (pos (labs F.data.toList) j : Nat))) ∧ gp < wr.heap.size ∧ Below w.heap.size w wr ∧ ((∃ J : Nat, J < m ∧ n = m - 1 - J ∧ i = .int .i64 J ∧ Hid (ss.map (fun s => s.data.toList) = (fl s.data.toList).take (m - 1 - J))) ∨ (i = .int .i64 (-1) ∧ n = m ∧ Hid (Strs s.data.toList ss)))) (fun _ i _ => (intOf i + 1).toNat)
  case atStart =>
    refine ⟨0, [], World.ownsRow_nil _ _ _ _, Nat.zero_le _, by simp [Value.ownBlock], hpc, hgp.2, hbel, ?_⟩
    rcases Nat.eq_zero_or_pos m with h0 | h0
    · refine .inr ⟨by go_num, h0.symm, ?_⟩
      unfold Hid Strs
      have := HFM.out
      rw [List.eq_nil_of_length_eq_zero (l := fl s.data.toList) (by omega)]; rfl
    · exact .inl ⟨m - 1, by omega, by omega, by go_num, by unfold Hid; simp⟩
  case round =>
    clear hpc hgp hbel
    obtain ⟨n, ss, hown, hnm, hne, hpc, hgp, hbel, hi⟩ := hrel
    rcases hi with ⟨J, hJ, hn, rfl, HT⟩ | ⟨rfl, hn, HSS⟩
    · have HNJ : Hid (n = m - 1 - J) := hn
      clear hn
      have hc1 := hpc J (by omega)
      have hc2 := hpc (J + 1) (by omega)
      have hsucc := pos_succ (labs F.data.toList) J (by have := HM.out; omega)
      have hQF := pos_in hFn (J + 1)
      have HLX : Hid ((F.extract (pos (labs F.data.toList) J + 1) (pos (labs F.data.toList) (J + 1))).data.toList = (fl s.data.toList)[m - 1 - J]'(by have := HFM.out; omega)) := by
        unfold Hid
        rw [lab_ext hFn J (by have := HM.out; omega)]
        have e : ∀ (a b : List (List UInt8)) (i j : Nat) (ha : i < a.length) (hb : j < b.length), b = a.reverse → i + j + 1 = a.length → a[i] = b[j] := by
          intro a b i j ha hb e f; subst e; rw [List.getElem_reverse]; congr 1; omega
        exact e _ _ _ _ _ _ HFL.out (by have := HM.out; omega)
      obtain ⟨P, hP⟩ : ∃ P, P = pos (labs F.data.toList) J := ⟨_, rfl⟩
      obtain ⟨Q, hQ⟩ : ∃ Q, Q = pos (labs F.data.toList) (J + 1) := ⟨_, rfl⟩
      rw [← hP] at hc1 HLX hsucc
      rw [← hQ] at hc2 HLX hQF hsucc
      have hPQ : P + 1 ≤ Q := by omega
      have HPC : Hid (∀ j, j ≤ m → wr.cell? ⟨gp, j, none⟩ = some (.int .i64 (pos (labs F.data.toList) j : Nat))) := hpc
      have HOW : Hid (wr.ownsRow w.heap.size 9 1 u6 n (ss.map Value.string)) := hown
      have hJ0 : (0 : Int) ≤ (J : Int) := by omega
      have hJ1 : (J : Int) < (m : Int) + 1 := by omega
      have hJ2 : (J : Int) + 1 < (m : Int) + 1 := by omega
      clear hpc hP hQ hown hsucc
      obtain ⟨i0, hi, hz0, hz1, hz2⟩ := info_parts info9
      have hw1 : IntKind.i64.wrap ((J : Int) + 1) = (J : Int) + 1 := by rw [IntKind.wrap_i64]; omega
      have hw2 : IntKind.i64.wrap ((P : Int) + 1) = (P : Int) + 1 := by rw [IntKind.wrap_i64]; omega
      have hJ3 : (0 : Int) ≤ (J : Int) + 1 := by omega
      have hJ4 : ((J : Int) + 1).toNat = J + 1 := by omega
      have hcut : ∀ u : World, (Instr.slice 9 (.string F) (some (.int .i64 ((P : Int) + 1))) (some (.int .i64 (Q : Int))) none).run Try.prog u = .ok (.string (F.extract (P + 1) Q)) u := fun u => by
        have := run_slice_string (P := Try.prog) u 9 F .i64 .i64 ((P : Int) + 1) (Q : Int) Try.underlying9 (by omega) (by omega) (by omega)
        rw [this]; rfl
      go_wp2
      go_region_law ((refine step_append_lies _ (by rfl) _ _ 53 (by rfl) w.heap.size 9 i0 (.string ⟨#[]⟩) 1 16 Try.underlying53 hi hz0 hz1 hz2 rfl (by decide) _ n (ss.map Value.string) (by rfl) ((HOW.out.alloc _).drew) ⟨wr.heap.size, 0, none⟩ 1 1 [.string (F.extract (P + 1) Q)] (by rfl) rfl (new_cells wr _) (by simp [Value.oneCell']) (by omega) (by unfold maxLen; omega) (by omega) (by show w.heap.size ≤ (wr.alloc _).heap.size; have := hbel.size; simp; omega) (wr.heap.size + 1) (by show (wr.alloc _).heap.size = _; simp) ?_; intro g cap2 w5 hown5 hgrow hat hlt))
      all_goals
        have HO5 : Hid (w5.ownsRow w.heap.size 9 1 (.slice (some ⟨g, 0, none⟩) (n + 1) cap2) (n + 1) ((ss ++ [F.extract (P + 1) Q]).map Value.string)) := by unfold Hid; rw [List.map_append]; exact hown5
        have HG5 : Hid (wr.grownBy w5 u6.ownBlock ∧ (u6.ownBlock = some g ∨ wr.heap.size ≤ g) ∧ g < w5.heap.size) := ⟨grown_back hgrow, hat.imp id (fun e => by omega), hlt⟩
        clear hown5 hgrow hat hlt
        go_wp2
        go_roundw
        case rel =>
          have hnj := HNJ.out
          refine ⟨n + 1, ss ++ [F.extract (P + 1) Q], HO5.out, by omega, ne_block HG5.out.2.1 hne hgp, fun j hj => HG5.out.1.cell (HPC.out j hj) (Ne.symm hne), Nat.lt_of_lt_of_le hgp HG5.out.1.size, hbel.grown HG5.out.1 hbel.size (fun k e => (HOW.out.lt k e).1), ?_⟩
          have HX : (ss ++ [F.extract (P + 1) Q]).map (fun s => s.data.toList) = (fl s.data.toList).take (m - J) := by
            rw [List.map_append, HT.out]
            exact take_step HFM.out hJ HLX.out
          rcases Nat.eq_zero_or_pos J with h0 | h0
          · refine .inr ⟨by subst h0; go_num, by omega, ?_⟩
            unfold Hid Strs
            rw [HX, List.take_of_length_le (by have := HFM.out; omega)]
          · exact .inl ⟨J - 1, by omega, by omega, by go_num, by unfold Hid; rw [HX, show m - 1 - (J - 1) = m - J from by omega]⟩
        case measure => simp [intOf]
    · have HO : Hid (wr.ownsRow w.heap.size 9 1 u6 (fl s.data.toList).length (ss.map Value.string)) := by unfold Hid; rw [HFM.out, ← hn]; exact hown
      clear hn hpc hown
      go_wp2
      go_ret
      exact ⟨_, ss, rfl, HO.out, HSS.out, hbel⟩

theorem labels_any (s : ByteArray) (w : World) (hs : s.size ≤ maxLen) :
    Calls Try.prog 39 #[.string s] w fun e w' => ∃ v ss, e = .returned v ∧ w'.ownsRow w.heap.size 9 1 v (fl s.data.toList).length (ss.map Value.string) ∧ Strs s.data.toList ss ∧ Below w.heap.size w w' := by
  cases h : isName s.data.toList with
  | true => exact labels_yes s w h
  | false =>
    have hf : fl s.data.toList = [] := by unfold fl; rw [labs_none h]; rfl
    refine (labels_no s w hs h).mono ?_
    rintro e w' ⟨rfl, hb⟩
    exact ⟨_, [], rfl, by rw [hf]; exact World.ownsRow_nil _ _ _ _, by unfold Strs; rw [hf]; rfl, hb⟩

end Go.Proofs.Yteibmkaghikloaa
