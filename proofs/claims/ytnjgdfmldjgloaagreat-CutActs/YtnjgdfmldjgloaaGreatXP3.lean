/- What labels of the document's answers gives, for every string. -/
import Derived.Test.YtnjgdfmldjgloaaGreatXP2
import Derived.RegionTactic
import Derived.Deep.RegionLaw
import Derived.LoopN
import Derived.Test.YtnjgdfmldjgloaaGreatXP1
import Derived.Deep.DeepCutAuto
import Derived.Deep.WholeRow
namespace Go.Proofs.YtnjgdfmldjgloaaGreat
open Go.RowKit
open Pl

theorem info9 : (Tryz.prog.info? 9).map (fun i => (i.zero, i.size, i.bytes)) = some (some (.string ⟨#[]⟩), 1, 16) := by kernel_rfl

theorem ne_block {v : Value} {gc g sz n cap : Nat} (h3 : v.ownBlock = some g ∨ sz ≤ g) (hne : v.ownBlock ≠ some gc) (hlt : gc < sz) : Value.ownBlock (.slice (some ⟨g, 0, none⟩) n cap) ≠ some gc := by
  intro e
  have e' : g = gc := by simpa [Value.ownBlock] using e
  subst e'
  rcases h3 with h3 | h3
  · exact hne h3
  · omega

theorem grown_back {w w' : World} {o : Obj} {r : Option Nat} (h3 : (w.alloc o).drew.grownBy w' r) : w.grownBy w' r := by
  refine ⟨h3.os, h3.tape, h3.output, ?_, fun k hk hne => ?_⟩
  · have : (w.alloc o).heap.size ≤ w'.heap.size := h3.size
    simp at this
    omega
  · have e1 := h3.block k (by show k < (w.alloc _).heap.size; simp; omega) hne
    exact e1.trans (Below.heap_alloc w _ k hk)
theorem new_cells (w : World) (t : ByteArray) : ∀ j u, [Value.string t][j]? = some u → (w.alloc (.cells #[.string t] 9)).drew.cell? ((⟨w.heap.size, 0, none⟩ : Addr).add j) = some u := by
  simpa using World.news_of_block (heap_alloc_new w (.cells #[.string t] 9))

/-- Strings that are the labels of a name, folded, the last one first. -/
def Strs (l : List UInt8) (ss : List ByteArray) : Prop := ss.map (fun s => s.data.toList) = fl l

theorem take_step {l : List (List UInt8)} {m J : Nat} (hm : l.length = m) (hJ : J < m) {T : List UInt8} (hT : T = l[m - 1 - J]'(by omega)) : l.take (m - 1 - J) ++ [T] = l.take (m - J) := by
  rw [show m - J = m - 1 - J + 1 from by omega, List.take_succ_eq_append_getElem (by omega), hT]

theorem labels_no (s : ByteArray) (w : World) (hs : s.size ≤ maxLen) (h : isName s.data.toList = false) :
    Calls Tryz.prog 92 #[.string s] w fun e w' => e = .returned (.slice none 0 0) ∧ Below w.heap.size w w' := by
  go_enter Tryz.func92, Tryz.ntmps92
  go_wp2_with (go_at_call 69; refine (refMay_as s false _ hs h).mono ?_; rintro e w1 ⟨rfl, b1⟩)
  go_ret
  exact ⟨rfl, b1⟩

set_option maxRecDepth 20000 in
set_option maxHeartbeats 2000000 in
theorem labels_yes (s : ByteArray) (w : World) (h : isName s.data.toList = true) :
    Calls Tryz.prog 92 #[.string s] w fun e w' => ∃ v ss, e = .returned v ∧ w'.ownsRow w.heap.size 9 1 v (fl s.data.toList).length (ss.map Value.string) ∧ Strs s.data.toList ss ∧ Below w.heap.size w w' := by
  have h255 := name_size h
  have hs : s.size ≤ maxLen := by unfold maxLen; omega
  obtain ⟨F, hF⟩ : ∃ F : ByteArray, F.data.toList = foldL s.data.toList := ⟨⟨(foldL s.data.toList).toArray⟩, by simp⟩
  have hFn : isName F.data.toList = true := by rw [hF, name_fold]; exact h
  have hFl : labs F.data.toList = (labs s.data.toList).map foldL := by rw [hF, labs_fold]
  have HFO : Hid (foldR s.data.toList = F.data.toList) := by unfold Hid; rw [foldR_yes h, hF]
  have hF255 := name_size hFn
  have hFs : F.size ≤ maxLen := by unfold maxLen; omega
  obtain ⟨m, hm⟩ : ∃ m, m = (labs F.data.toList).length := ⟨_, rfl⟩
  have HM : Hid (m = (labs F.data.toList).length) := hm
  have hm127 : m ≤ 127 := by rw [hm]; exact few hFn
  have hfl : fl s.data.toList = (labs F.data.toList).reverse := by unfold fl; rw [hFl]
  have HFL : Hid (fl s.data.toList = (labs F.data.toList).reverse) := hfl
  have HFM : Hid ((fl s.data.toList).length = m) := by unfold Hid; rw [hfl, List.length_reverse, hm]
  have hbel : Below w.heap.size w w := Below.refl _ _
  clear hF hFl hm hfl
  go_enter Tryz.func92, Tryz.ntmps92
  go_wp2_with (first
    | (go_at_call 69; refine (refMay_as s true _ hs h).mono ?_; rintro e w1 ⟨rfl, b1⟩; replace hbel := next hbel b1; clear b1)
    | (go_at_call 35; refine (refFold_as s F _ hs HFO.out).mono ?_; rintro e w2 ⟨rfl, b1⟩; replace hbel := next hbel b1; clear b1)
    | (go_at_call 70; refine (places_any _ _ hFs).mono ?_; rintro e w3 ⟨v, rfl, b1, hp⟩; rw [hFn]; obtain ⟨gp, cap, qs, rfl, hpl, hown⟩ := hp hFn; have hq := places_pos hFn hpl; have hql : qs.length = m + 1 := hq.1.trans (by rw [HM.out]); have hqq := hq.2; have hpc : ∀ j, j ≤ m → w3.cell? ⟨gp, j, none⟩ = some (.int .i64 (pos (labs F.data.toList) j : Nat)) := (fun j hj => by rw [hown.cellAt j (by omega)]; have hj' : j < qs.length := (by omega); rw [← hqq j (by have := HM.out; omega)]; simp [hj', iv]); have hgp := hown.lt gp rfl; rw [hql]; replace hbel := next hbel b1; clear b1 hp hpl hown hq hql hqq))
  go_loopw [6, 7] (fun v i wr => ∃ (n : Nat) (ss : List ByteArray), wr.ownsRow w.heap.size 9 1 v n (ss.map Value.string) ∧ n ≤ m ∧ v.ownBlock ≠ some gp ∧ (∀ j, j ≤ m → wr.cell? ⟨gp, j, none⟩ = some (.int .i64 (pos (labs F.data.toList) j : Nat))) ∧ gp < wr.heap.size ∧ Below w.heap.size w wr ∧ ((∃ J : Nat, J < m ∧ n = m - 1 - J ∧ i = .int .i64 J ∧ Hid (ss.map (fun s => s.data.toList) = (fl s.data.toList).take (m - 1 - J))) ∨ (i = .int .i64 (-1) ∧ n = m ∧ Hid (Strs s.data.toList ss)))) (fun _ i _ => (intOf i + 1).toNat)
  case atStart =>
    refine ⟨0, [], World.ownsRow_nil _ _ _ _, Nat.zero_le _, by simp [Value.ownBlock], hpc, hgp.2, hbel, ?_⟩
    rcases Nat.eq_zero_or_pos m with h0 | h0
    · refine .inr ⟨by go_num, h0.symm, ?_⟩
      unfold Hid Strs
      have := HFM.out
      rw [List.eq_nil_of_length_eq_zero (l := fl s.data.toList) (by omega)]; rfl
    · exact .inl ⟨m - 1, by omega, by omega, by go_num, by unfold Hid; simp⟩
  case round =>
    clear hpc hgp hbel
    obtain ⟨n, ss, hown, hnm, hne, hpc, hgp, hbel, hi⟩ := hrel
    rcases hi with ⟨J, hJ, hn, rfl, HT⟩ | ⟨rfl, hn, HSS⟩
    · have HNJ : Hid (n = m - 1 - J) := hn
      clear hn
      have hc1 := hpc J (by omega)
      have hc2 := hpc (J + 1) (by omega)
      have hsucc := pos_succ (labs F.data.toList) J (by have := HM.out; omega)
      have hQF := pos_in hFn (J + 1)
      have HLX : Hid ((F.extract (pos (labs F.data.toList) J + 1) (pos (labs F.data.toList) (J + 1))).data.toList = (fl s.data.toList)[m - 1 - J]'(by have := HFM.out; omega)) := by
        unfold Hid
        rw [lab_ext hFn J (by have := HM.out; omega)]
        have e : ∀ (a b : List (List UInt8)) (i j : Nat) (ha : i < a.length) (hb : j < b.length), b = a.reverse → i + j + 1 = a.length → a[i] = b[j] := by
          intro a b i j ha hb e f; subst e; rw [List.getElem_reverse]; congr 1; omega
        exact e _ _ _ _ _ _ HFL.out (by have := HM.out; omega)
      obtain ⟨P, hP⟩ : ∃ P, P = pos (labs F.data.toList) J := ⟨_, rfl⟩
      obtain ⟨Q, hQ⟩ : ∃ Q, Q = pos (labs F.data.toList) (J + 1) := ⟨_, rfl⟩
      rw [← hP] at hc1 HLX hsucc
      rw [← hQ] at hc2 HLX hQF hsucc
      have hPQ : P + 1 ≤ Q := by omega
      have HPC : Hid (∀ j, j ≤ m → wr.cell? ⟨gp, j, none⟩ = some (.int .i64 (pos (labs F.data.toList) j : Nat))) := hpc
      have HOW : Hid (wr.ownsRow w.heap.size 9 1 u6 n (ss.map Value.string)) := hown
      have hJ0 : (0 : Int) ≤ (J : Int) := by omega
      have hJ1 : (J : Int) < (m : Int) + 1 := by omega
      have hJ2 : (J : Int) + 1 < (m : Int) + 1 := by omega
      clear hpc hP hQ hown hsucc
      obtain ⟨i0, hi, hz0, hz1, hz2⟩ := info_parts info9
      have hw1 : IntKind.i64.wrap ((J : Int) + 1) = (J : Int) + 1 := by rw [IntKind.wrap_i64]; omega
      have hw2 : IntKind.i64.wrap ((P : Int) + 1) = (P : Int) + 1 := by rw [IntKind.wrap_i64]; omega
      have hJ3 : (0 : Int) ≤ (J : Int) + 1 := by omega
      have hJ4 : ((J : Int) + 1).toNat = J + 1 := by omega
      have hcut : ∀ u : World, (Instr.slice 9 (.string F) (some (.int .i64 ((P : Int) + 1))) (some (.int .i64 (Q : Int))) none).run Tryz.prog u = .ok (.string (F.extract (P + 1) Q)) u := fun u => by
        have := run_slice_string (P := Tryz.prog) u 9 F .i64 .i64 ((P : Int) + 1) (Q : Int) Tryz.underlying9 (by omega) (by omega) (by omega)
        rw [this]; rfl
      go_wp2
      go_region_law ((refine step_append_lies _ (by rfl) _ _ 36 (by rfl) w.heap.size 9 i0 (.string ⟨#[]⟩) 1 16 Tryz.underlying36 hi hz0 hz1 hz2 rfl (by decide) _ n (ss.map Value.string) (by rfl) ((HOW.out.alloc _).drew) ⟨wr.heap.size, 0, none⟩ 1 1 [.string (F.extract (P + 1) Q)] (by rfl) rfl (new_cells wr _) (by simp [Value.oneCell']) (by omega) (by unfold maxLen; omega) (by omega) (by show w.heap.size ≤ (wr.alloc _).heap.size; have := hbel.size; simp; omega) (wr.heap.size + 1) (by show (wr.alloc _).heap.size = _; simp) ?_; intro g cap2 w5 hown5 hgrow hat hlt))
      all_goals
        have HO5 : Hid (w5.ownsRow w.heap.size 9 1 (.slice (some ⟨g, 0, none⟩) (n + 1) cap2) (n + 1) ((ss ++ [F.extract (P + 1) Q]).map Value.string)) := by unfold Hid; rw [List.map_append]; exact hown5
        have HG5 : Hid (wr.grownBy w5 u6.ownBlock ∧ (u6.ownBlock = some g ∨ wr.heap.size ≤ g) ∧ g < w5.heap.size) := ⟨grown_back hgrow, hat.imp id (fun e => by omega), hlt⟩
        clear hown5 hgrow hat hlt
        go_wp2
        go_roundw
        case rel =>
          have hnj := HNJ.out
          refine ⟨n + 1, ss ++ [F.extract (P + 1) Q], HO5.out, by omega, ne_block HG5.out.2.1 hne hgp, fun j hj => HG5.out.1.cell (HPC.out j hj) (Ne.symm hne), Nat.lt_of_lt_of_le hgp HG5.out.1.size, hbel.grown HG5.out.1 hbel.size (fun k e => (HOW.out.lt k e).1), ?_⟩
          have HX : (ss ++ [F.extract (P + 1) Q]).map (fun s => s.data.toList) = (fl s.data.toList).take (m - J) := by
            rw [List.map_append, HT.out]
            exact take_step HFM.out hJ HLX.out
          rcases Nat.eq_zero_or_pos J with h0 | h0
          · refine .inr ⟨by subst h0; go_num, by omega, ?_⟩
            unfold Hid Strs
            rw [HX, List.take_of_length_le (by have := HFM.out; omega)]
          · exact .inl ⟨J - 1, by omega, by omega, by go_num, by unfold Hid; rw [HX, show m - 1 - (J - 1) = m - J from by omega]⟩
        case measure => simp [intOf]
    · have HO : Hid (wr.ownsRow w.heap.size 9 1 u6 (fl s.data.toList).length (ss.map Value.string)) := by unfold Hid; rw [HFM.out, ← hn]; exact hown
      clear hn hpc hown
      go_wp2
      go_ret
      exact ⟨_, ss, rfl, HO.out, HSS.out, hbel⟩

theorem labels_any (s : ByteArray) (w : World) (hs : s.size ≤ maxLen) :
    Calls Tryz.prog 92 #[.string s] w fun e w' => ∃ v ss, e = .returned v ∧ w'.ownsRow w.heap.size 9 1 v (fl s.data.toList).length (ss.map Value.string) ∧ Strs s.data.toList ss ∧ Below w.heap.size w w' := by
  cases h : isName s.data.toList with
  | true => exact labels_yes s w h
  | false =>
    have hf : fl s.data.toList = [] := by unfold fl; rw [labs_none h]; rfl
    refine (labels_no s w hs h).mono ?_
    rintro e w' ⟨rfl, hb⟩
    exact ⟨_, [], rfl, by rw [hf]; exact World.ownsRow_nil _ _ _ _, by unfold Strs; rw [hf]; rfl, hb⟩

end Go.Proofs.YtnjgdfmldjgloaaGreat

/- What Compare of the document's answers gives, for every two strings. -/
namespace Go.Proofs.YtnjgdfmldjgloaaGreat
open Go.RowKit
open Pl

theorem less_lex : ∀ x y : List UInt8, Op.bytesLess x y = decide (lexG cB x y = -1) := by
  intro x
  induction x with
  | nil =>
    intro y
    cases y with
    | nil => simp [Op.bytesLess, lexG]
    | cons b y => simp [Op.bytesLess, lexG]
  | cons a x ih =>
    intro y
    cases y with
    | nil => simp [Op.bytesLess, lexG]
    | cons b y =>
      rw [Op.bytesLess, ih y, lexG]
      have hl : decide (a < b) = decide (a.toNat < b.toNat) := by rw [Bool.eq_iff_iff]; simp [UInt8.lt_iff_toNat_lt]
      have he : (a == b) = decide (a.toNat = b.toNat) := by rw [Bool.eq_iff_iff]; simp [UInt8.toNat_inj]
      rw [hl, he]
      unfold cB sgn
      rcases Nat.lt_trichotomy a.toNat b.toNat with h | h | h
      · have h1 : (a.toNat : Int) < (b.toNat : Int) := by omega
        have h2 : ¬ a.toNat = b.toNat := by omega
        simp [h, h2]
      · have h1 : ¬ a.toNat < b.toNat := by omega
        have h2 : ¬ b.toNat < a.toNat := by omega
        simp [h]
      · have h1 : ¬ a.toNat < b.toNat := by omega
        have h2 : ¬ a.toNat = b.toNat := by omega
        simp [h, h1, h2]

/-- A row of strings, as a slice and its cells. -/
theorem str_row {w : World} {base n : Nat} {v : Value} {ss : List ByteArray} (h : w.ownsRow base 9 1 v n (ss.map Value.string)) :
    ∃ a c, v = .slice a n c ∧ (n = 0 ∨ ∃ g, a = some ⟨g, 0, none⟩ ∧ ∀ j (hj : j < ss.length), w.cell? ⟨g, j, none⟩ = some (.string ss[j])) := by
  rcases h.2 with ⟨rfl, rfl⟩ | ⟨g, cap, cur, rfl, hb, hg, hnc, hm, hcs, htake⟩
  · exact ⟨none, 0, rfl, .inl rfl⟩
  · refine ⟨_, _, rfl, .inr ⟨g, rfl, fun j hj => ?_⟩⟩
    have hn : ss.length = n := by simpa using h.1
    rw [h.cellAt j (by omega)]
    simp [hj]

theorem cmpK_start (a b : List UInt8) : cmpN a b = lexG (lexG cB) ((fl a).drop 0) ((fl b).drop 0) := rfl

theorem cmpK_step {a b : List UInt8} {ss tt : List ByteArray} {k : Nat} (ha : Strs a ss) (hb : Strs b tt) (h : cmpN a b = lexG (lexG cB) ((fl a).drop k) ((fl b).drop k)) (h1 : k < ss.length) (h2 : k < tt.length) :
    cmpN a b = if lexG cB ss[k].data.toList tt[k].data.toList = 0 then lexG (lexG cB) ((fl a).drop (k + 1)) ((fl b).drop (k + 1)) else lexG cB ss[k].data.toList tt[k].data.toList := by
  unfold Strs at ha hb
  have l1 : (fl a).length = ss.length := by rw [← ha]; simp
  have l2 : (fl b).length = tt.length := by rw [← hb]; simp
  rw [h, lexG_drop ord_ord _ _ k (by omega) (by omega)]
  have e : ∀ (l : List (List UInt8)) (rs : List ByteArray) (i : Nat) (hi : i < l.length) (hj : i < rs.length), rs.map (fun s => s.data.toList) = l → l[i] = rs[i].data.toList := by
    intro l rs i hi hj e; subst e; simp
  rw [e _ _ _ (by omega) h1 ha, e _ _ _ (by omega) h2 hb]

theorem less_as {X Y : ByteArray} {b : Bool} (h : decide (lexG cB X.data.toList Y.data.toList = -1) = b) : Op.bytesLess X.toList Y.toList = b := by
  rw [ByteArray.toList_eq, ByteArray.toList_eq, less_lex]; exact h
theorem gtr_as {X Y : ByteArray} {b : Bool} (h : decide (lexG cB X.data.toList Y.data.toList = 1) = b) : binOp .gtr 9 (.string X) (.string Y) = pure (.bool b) := by
  have e : binOp .gtr 9 (.string X) (.string Y) = pure (.bool !(Op.bytesLess X.toList Y.toList || X.toList == Y.toList)) := by simp [binOp, Op.stringOp]
  rw [e, ← h, ByteArray.toList_eq, ByteArray.toList_eq, less_lex]
  congr 2
  rw [Bool.eq_iff_iff]
  have hz := ord_ord.zero X.data.toList Y.data.toList
  rcases ord_ord.three X.data.toList Y.data.toList with h3 | h3 | h3
  · rw [h3]; simp
  · have := hz.1 h3
    rw [h3]; simp [this]
  · have hne : X.data.toList ≠ Y.data.toList := fun e => by have := hz.2 e; omega
    rw [h3]; simp; exact fun e => hne (by rw [e])

set_option maxRecDepth 20000 in
set_option maxHeartbeats 2000000 in
theorem refCompare_any (a b : ByteArray) (w : World) (ha : a.size ≤ maxLen) (hb : b.size ≤ maxLen) :
    Calls Tryz.prog 77 #[.string a, .string b] w fun e w' => e = .returned (.int .i64 (cmpN a.data.toList b.data.toList)) ∧ Below w.heap.size w w' := by
  obtain ⟨n, hn⟩ : ∃ n, n = (fl a.data.toList).length := ⟨_, rfl⟩
  obtain ⟨m, hm⟩ : ∃ m, m = (fl b.data.toList).length := ⟨_, rfl⟩
  have HN : Hid (n = (fl a.data.toList).length) := hn
  have HM : Hid (m = (fl b.data.toList).length) := hm
  have hn127 : n ≤ 127 := by
    rw [hn, fl_len]
    cases h : isName a.data.toList with
    | true => exact few h
    | false => rw [labs_none h]; simp
  have hm127 : m ≤ 127 := by
    rw [hm, fl_len]
    cases h : isName b.data.toList with
    | true => exact few h
    | false => rw [labs_none h]; simp
  clear hn hm
  have t1 : True := trivial
  have t2 : True := trivial
  go_enter Tryz.func77, Tryz.ntmps77
  go_wp2_with (first
    | (go_at_call 92; have _t := t1; refine (labels_any a _ ha).mono ?_; rintro e w1 ⟨v1, ss, rfl, ho1, hs1, b1⟩; clear t1)
    | (go_at_call 92; have _t := t2; refine (labels_any b _ hb).mono ?_; rintro e w2 ⟨v2, tt, rfl, ho2, hs2, b2⟩; clear t2; rw [← HM.out] at ho2; rw [← HN.out] at ho1; have ho3 := (ho1.kept (w' := w2) (row := none) (by obtain ⟨e1, e2, e3, e4, e5⟩ := b2; exact ⟨e1, e2, e3, e4, fun k hk _ => e5 k hk⟩) (by cases hv : v1.ownBlock <;> simp)); obtain ⟨x1, c1, rfl, hr1⟩ := str_row ho3; obtain ⟨x2, c2, rfl, hr2⟩ := str_row ho2; have hl1 : ss.length = n := (by simpa using ho1.1); have hl2 : tt.length = m := (by simpa using ho2.1); clear ho1 ho2 ho3))
  have HB : Hid (Below w.heap.size w w2) := next b1 b2
  have HS1 : Hid (Strs a.data.toList ss) := hs1
  have HS2 : Hid (Strs b.data.toList tt) := hs2
  have HL1 : Hid (ss.length = n) := hl1
  have HL2 : Hid (tt.length = m) := hl2
  have HEND : Hid (∀ k, (k = n ∨ k = m) → k ≤ n → k ≤ m → cmpN a.data.toList b.data.toList = lexG (lexG cB) ((fl a.data.toList).drop k) ((fl b.data.toList).drop k) → sgn (n : Int) (m : Int) = cmpN a.data.toList b.data.toList) := by
    intro k h1 h2 h3 h4
    rw [h4, lexG_end _ _ k (by rw [← HN.out, ← HM.out]; exact h1) (by rw [← HN.out]; exact h2) (by rw [← HM.out]; exact h3), ← HN.out, ← HM.out]
  clear b1 b2 hs1 hs2 hl1 hl2
  by_cases hz : n = 0 ∨ m = 0
  · have hres := HEND.out 0 (by omega) (by omega) (by omega) (cmpK_start _ _)
    have HRES : Hid (sgn (n : Int) (m : Int) = cmpN a.data.toList b.data.toList) := hres
    have hz2 : decide (0 < n) = false ∨ (decide (0 < n) = true ∧ decide (0 < m) = false) := by
      by_cases h0 : n = 0
      · exact .inl (by simp; omega)
      · exact .inr ⟨by simp; omega, by simp; omega⟩
    clear hres hr1 hr2
    rcases hz2 with e0 | ⟨e0, e3⟩
    all_goals
      refine wp_loop_rounds 1 ?_
      rw [rounds_succ]
      rcases Nat.lt_trichotomy n m with hlt | heq | hgt
      · have hv : Hid ((-1 : Int) = cmpN a.data.toList b.data.toList) := by unfold Hid; rw [← HRES.out]; unfold sgn; rw [if_pos (by omega)]
        have e1 : decide (n < m) = true := by simpa using hlt
        clear hlt
        go_wp2
        go_ret
        exact ⟨ret_int hv.out, HB.out⟩
      · have hv : Hid ((0 : Int) = cmpN a.data.toList b.data.toList) := by unfold Hid; rw [← HRES.out]; unfold sgn; rw [if_neg (by omega), if_neg (by omega)]
        have e1 : decide (n < m) = false := by simp; omega
        have e2 : decide (m < n) = false := by simp; omega
        clear heq
        go_wp2
        go_ret
        exact ⟨ret_int hv.out, HB.out⟩
      · have hv : Hid ((1 : Int) = cmpN a.data.toList b.data.toList) := by unfold Hid; rw [← HRES.out]; unfold sgn; rw [if_neg (by omega), if_pos (by omega)]
        have e1 : decide (n < m) = false := by simp; omega
        have e2 : decide (m < n) = true := by simpa using hgt
        clear hgt
        go_wp2
        go_ret
        exact ⟨ret_int hv.out, HB.out⟩
  · obtain ⟨g1, rfl, hc1⟩ := hr1.resolve_left (by omega)
    obtain ⟨g2, rfl, hc2⟩ := hr2.resolve_left (by omega)
    have HC1 : Hid (∀ j (hj : j < ss.length), w2.cell? ⟨g1, j, none⟩ = some (.string ss[j])) := hc1
    have HC2 : Hid (∀ j (hj : j < tt.length), w2.cell? ⟨g2, j, none⟩ = some (.string tt[j])) := hc2
    clear hr1 hr2 hc1 hc2 hz
    go_loopw [7] (fun i wr => ∃ (k : Nat), k ≤ n ∧ k ≤ m ∧ i = .int .i64 k ∧ Hid (∃ q, wr = w2.drewN q) ∧ Hid (cmpN a.data.toList b.data.toList = lexG (lexG cB) ((fl a.data.toList).drop k) ((fl b.data.toList).drop k))) (fun i _ => n - (intOf i).toNat)
    case atStart => exact ⟨0, Nat.zero_le _, Nat.zero_le _, rfl, ⟨0, rfl⟩, cmpK_start _ _⟩
    case round =>
      obtain ⟨k, hkn, hkm, rfl, hdr, hc⟩ := hrel
      by_cases hkk : k < n ∧ k < m
      · obtain ⟨hk1, hk2⟩ := hkk
        have hks : k < ss.length := by have := HL1.out; omega
        have hkt : k < tt.length := by have := HL2.out; omega
        have hcx : wr.cell? ⟨g1, k, none⟩ = some (.string ss[k]) := by rw [drew_cell hdr.out]; exact HC1.out k hks
        have hcy : wr.cell? ⟨g2, k, none⟩ = some (.string tt[k]) := by rw [drew_cell hdr.out]; exact HC2.out k hkt
        have hst := cmpK_step HS1.out HS2.out hc.out hks hkt
        obtain ⟨X, hX⟩ : ∃ X, X = ss[k] := ⟨_, rfl⟩
        obtain ⟨Y, hY⟩ : ∃ Y, Y = tt[k] := ⟨_, rfl⟩
        rw [← hX] at hcx hst
        rw [← hY] at hcy hst
        have hk1' : (k : Int) < (n : Int) := by omega
        have hk2' : (k : Int) < (m : Int) := by omega
        have e0 : decide (k < n) = true := by simpa using hk1
        have e3 : decide (k < m) = true := by simpa using hk2
        clear hX hY
        rcases ord_ord.three X.data.toList Y.data.toList with h3 | h3 | h3
        · have hv : Hid ((-1 : Int) = cmpN a.data.toList b.data.toList) := by unfold Hid; rw [hst, h3]; simp
          have hl : Op.bytesLess X.toList Y.toList = true := less_as (by rw [h3]; rfl)
          clear hst h3
          go_wp2
          go_quiet (fail)
          go_wp2
          go_ret
          exact ⟨ret_int hv.out, next HB.out (below_drew (drew_more hdr.out))⟩
        · have HX : Hid (cmpN a.data.toList b.data.toList = lexG (lexG cB) ((fl a.data.toList).drop (k + 1)) ((fl b.data.toList).drop (k + 1))) := by unfold Hid; rw [hst, if_pos h3]
          have hl : Op.bytesLess X.toList Y.toList = false := less_as (by rw [h3]; rfl)
          have hg : binOp .gtr 9 (.string X) (.string Y) = pure (.bool false) := gtr_as (by rw [h3]; rfl)
          clear hst h3
          go_wp2
          go_quiet (fail)
          obtain ⟨wq, hwq⟩ : ∃ u : World, u = wr.drewN nq := ⟨_, rfl⟩
          rw [← hwq]
          have hcx' : wq.cell? ⟨g1, k, none⟩ = some (.string X) := by rw [hwq]; exact hcx
          have hcy' : wq.cell? ⟨g2, k, none⟩ = some (.string Y) := by rw [hwq]; exact hcy
          have HDQ : Hid (∃ q, wq = w2.drewN q) := by rw [hwq]; exact drew_more hdr.out
          clear hwq hcx hcy
          go_wp2
          go_quiet (fail)
          go_wp2
          go_roundw
          case rel => exact ⟨k + 1, by omega, by omega, by go_num, drew_more HDQ.out, HX⟩
          case measure => simp [intOf]; omega
        · have hv : Hid ((1 : Int) = cmpN a.data.toList b.data.toList) := by unfold Hid; rw [hst, h3]; simp
          have hl : Op.bytesLess X.toList Y.toList = false := less_as (by rw [h3]; rfl)
          have hg : binOp .gtr 9 (.string X) (.string Y) = pure (.bool true) := gtr_as (by rw [h3]; rfl)
          clear hst h3
          go_wp2
          go_quiet (fail)
          obtain ⟨wq, hwq⟩ : ∃ u : World, u = wr.drewN nq := ⟨_, rfl⟩
          rw [← hwq]
          have hcx' : wq.cell? ⟨g1, k, none⟩ = some (.string X) := by rw [hwq]; exact hcx
          have hcy' : wq.cell? ⟨g2, k, none⟩ = some (.string Y) := by rw [hwq]; exact hcy
          have HDQ : Hid (∃ q, wq = w2.drewN q) := by rw [hwq]; exact drew_more hdr.out
          clear hwq hcx hcy
          go_wp2
          go_quiet (fail)
          go_wp2
          go_ret
          exact ⟨ret_int hv.out, next HB.out (below_drew (drew_more HDQ.out))⟩
      · have hres := HEND.out k (by omega) hkn hkm hc.out
        have HRES : Hid (sgn (n : Int) (m : Int) = cmpN a.data.toList b.data.toList) := hres
        have hz2 : decide (k < n) = false ∨ (decide (k < n) = true ∧ decide (k < m) = false) := by
          by_cases h0 : k < n
          · exact .inr ⟨by simpa using h0, by simp; omega⟩
          · exact .inl (by simp; omega)
        clear hres hkk
        rcases hz2 with e0 | ⟨e0, e3⟩
        all_goals
          rcases Nat.lt_trichotomy n m with hlt | heq | hgt
          · have hv : Hid ((-1 : Int) = cmpN a.data.toList b.data.toList) := by unfold Hid; rw [← HRES.out]; unfold sgn; rw [if_pos (by omega)]
            have e1 : decide (n < m) = true := by simpa using hlt
            clear hlt
            go_wp2
            go_ret
            exact ⟨ret_int hv.out, next HB.out (below_drew hdr.out)⟩
          · have hv : Hid ((0 : Int) = cmpN a.data.toList b.data.toList) := by unfold Hid; rw [← HRES.out]; unfold sgn; rw [if_neg (by omega), if_neg (by omega)]
            have e1 : decide (n < m) = false := by simp; omega
            have e2 : decide (m < n) = false := by simp; omega
            clear heq
            go_wp2
            go_ret
            exact ⟨ret_int hv.out, next HB.out (below_drew hdr.out)⟩
          · have hv : Hid ((1 : Int) = cmpN a.data.toList b.data.toList) := by unfold Hid; rw [← HRES.out]; unfold sgn; rw [if_neg (by omega), if_pos (by omega)]
            have e1 : decide (n < m) = false := by simp; omega
            have e2 : decide (m < n) = true := by simpa using hgt
            clear hgt
            go_wp2
            go_ret
            exact ⟨ret_int hv.out, next HB.out (below_drew hdr.out)⟩

end Go.Proofs.YtnjgdfmldjgloaaGreat

/- What a store holds, plainly: entries, which is less, what is put, what is told. -/
namespace Go.Proofs.YtnjgdfmldjgloaaGreat
open Pl

/-- An entry. -/
structure En where
  n : ByteArray
  t : Int
  l : Int
  ds : List ByteArray
  r : Int
  u : Int

/-- Names and types in their row. -/
def cK (a : ByteArray) (s : Int) (b : ByteArray) (t : Int) : Int := if cmpN a.data.toList b.data.toList = 0 then sgn s t else cmpN a.data.toList b.data.toList
theorem sgn_self (s : Int) : sgn s s = 0 := by unfold sgn; simp
theorem sgn_anti (s t : Int) : sgn t s = - sgn s t := by unfold sgn; repeat' split <;> omega
theorem sgn_zero {s t : Int} (h : sgn s t = 0) : s = t := by unfold sgn at h; repeat' split at h <;> omega
theorem sgn_neg (s t : Int) : sgn s t < 0 ↔ s < t := by unfold sgn; repeat' split <;> omega
theorem cK_self (a : ByteArray) (s : Int) : cK a s a s = 0 := by unfold cK; rw [if_pos (cmp_self _), sgn_self]
theorem cK_anti (a : ByteArray) (s : Int) (b : ByteArray) (t : Int) : cK b t a s = - cK a s b t := by
  unfold cK
  rw [cmp_anti a.data.toList b.data.toList]
  by_cases h : cmpN a.data.toList b.data.toList = 0
  · rw [if_pos (by omega), if_pos h, sgn_anti]
  · rw [if_neg (by omega), if_neg h]
theorem cK_three (a : ByteArray) (s : Int) (b : ByteArray) (t : Int) : -1 ≤ cK a s b t ∧ cK a s b t ≤ 1 := by
  unfold cK
  split
  · unfold sgn; repeat' split <;> omega
  · exact cmp_three _ _
theorem cmp_lt {a b c : List UInt8} (h1 : cmpN a b < 0) (h2 : cmpN b c ≤ 0) : cmpN a c < 0 := by
  have h3 := cmp_trans (Int.le_of_lt h1) h2
  rcases Int.lt_or_eq_of_le h3 with h | h
  · exact h
  · exfalso
    have h4 : cmpN c a ≤ 0 := by rw [cmp_anti a c]; omega
    have := cmp_trans h2 h4
    have := cmp_anti a b
    omega
theorem cmp_lt' {a b c : List UInt8} (h1 : cmpN a b ≤ 0) (h2 : cmpN b c < 0) : cmpN a c < 0 := by
  have h3 := cmp_trans h1 (Int.le_of_lt h2)
  rcases Int.lt_or_eq_of_le h3 with h | h
  · exact h
  · exfalso
    have h4 : cmpN c a ≤ 0 := by rw [cmp_anti a c]; omega
    have := cmp_trans h4 h1
    have := cmp_anti b c
    omega
theorem cK_neg {a : ByteArray} {s : Int} {b : ByteArray} {t : Int} : cK a s b t < 0 ↔ cmpN a.data.toList b.data.toList < 0 ∨ cmpN a.data.toList b.data.toList = 0 ∧ s < t := by
  unfold cK
  split
  · rename_i h; rw [sgn_neg]; omega
  · rename_i h; omega
theorem cK_trans {a b c : ByteArray} {s t u : Int} (h1 : cK a s b t < 0) (h2 : cK b t c u < 0) : cK a s c u < 0 := by
  rw [cK_neg] at *
  rcases h1 with h1 | ⟨h1, h3⟩
  · rcases h2 with h2 | ⟨h2, _⟩
    · exact .inl (cmp_lt h1 (Int.le_of_lt h2))
    · exact .inl (cmp_lt h1 (Int.le_of_eq h2))
  · rcases h2 with h2 | ⟨h2, h4⟩
    · exact .inl (cmp_lt' (Int.le_of_eq h1) h2)
    · refine .inr ⟨?_, by omega⟩
      have e := (cmp_zero _ _).1 h1
      have e' := (cmp_zero _ _).1 h2
      exact (cmp_zero _ _).2 (e.trans e')

/-- A name in its small letters and a type: what tells entries apart. -/
structure OkK (n : ByteArray) (t : Int) : Prop where
  nm : isName n.data.toList = true
  fo : foldL n.data.toList = n.data.toList
  lo : 0 ≤ t
  hi : t ≤ 65535
theorem OkK.size {n : ByteArray} {t : Int} (h : OkK n t) : n.size ≤ 255 := by
  have := (name_some h.nm).1
  have e := data_len n
  omega
theorem bytes_ext {a b : ByteArray} (h : a.data.toList = b.data.toList) : a = b := by
  cases a with | mk a => cases b with | mk b => simp at h; rw [h]
theorem cK_zero {a b : ByteArray} {s t : Int} (ha : OkK a s) (hb : OkK b t) (h : cK a s b t = 0) : a = b ∧ s = t := by
  unfold cK at h
  by_cases e : cmpN a.data.toList b.data.toList = 0
  · rw [if_pos e] at h
    refine ⟨bytes_ext ?_, sgn_zero h⟩
    rw [← ha.fo, ← hb.fo]
    exact (fold_inj ha.nm hb.nm).2 ((cmp_zero _ _).1 e)
  · rw [if_neg e] at h
    exact absurd h e

/-- An entry that may be held. -/
structure OkE (e : En) : Prop where
  k : OkK e.n e.t
  len : e.ds.length ≤ 8796093022000
  siz : ∀ d ∈ e.ds, d.size ≤ 140737488351232
/-- Which entry is less: by its end, then by its name and type. -/
def ltE (x y : En) : Bool := decide (x.u < y.u) || (decide (x.u = y.u) && decide (cK x.n x.t y.n y.t < 0))
theorem ltE_iff {x y : En} : ltE x y = true ↔ x.u < y.u ∨ x.u = y.u ∧ cK x.n x.t y.n y.t < 0 := by unfold ltE; simp
theorem ltE_irr (x : En) : ltE x x = false := by
  cases h : ltE x x with
  | false => rfl
  | true => rw [ltE_iff, cK_self] at h; omega
theorem ltE_trans {x y z : En} (h1 : ltE x y = true) (h2 : ltE y z = true) : ltE x z = true := by
  rw [ltE_iff] at *
  rcases h1 with h1 | ⟨h1, h3⟩
  · exact .inl (by omega)
  · rcases h2 with h2 | ⟨h2, h4⟩
    · exact .inl (by omega)
    · exact .inr ⟨by omega, cK_trans h3 h4⟩
def sameK (n : ByteArray) (t : Int) (e : En) : Bool := decide (e.n = n) && decide (e.t = t)
theorem sameK_iff {n : ByteArray} {t : Int} {e : En} : sameK n t e = true ↔ e.n = n ∧ e.t = t := by unfold sameK; simp
theorem ltE_total {x y : En} (hx : OkE x) (hy : OkE y) (h : ltE x y = false) (hk : sameK x.n x.t y = false) : ltE y x = true := by
  rw [ltE_iff]
  have h1 : ¬ (x.u < y.u ∨ x.u = y.u ∧ cK x.n x.t y.n y.t < 0) := fun e => by rw [← ltE_iff, h] at e; cases e
  by_cases e : y.u < x.u
  · exact .inl e
  · refine .inr ⟨by omega, ?_⟩
    have h2 : ¬ cK x.n x.t y.n y.t < 0 := fun e' => h1 (.inr ⟨by omega, e'⟩)
    have h3 : cK x.n x.t y.n y.t ≠ 0 := fun e' => by
      have := cK_zero hx.k hy.k e'
      rw [sameK_iff.2 ⟨this.1.symm, this.2.symm⟩] at hk
      cases hk
    have := cK_anti x.n x.t y.n y.t
    omega

/-- Entries of which no two have one name and type. -/
def Dis (L : List En) : Prop := L.Pairwise (fun x y => sameK x.n x.t y = false)
theorem sameK_symm {x y : En} (h : sameK x.n x.t y = false) : sameK y.n y.t x = false := by
  cases e : sameK y.n y.t x with
  | false => rfl
  | true => rw [sameK_iff] at e; rw [sameK_iff.2 ⟨e.1.symm, e.2.symm⟩] at h; cases h
theorem Dis.at {L : List En} (h : Dis L) {i j : Nat} (hi : i < L.length) (hj : j < L.length) (hij : i ≠ j) : sameK L[i].n L[i].t L[j] = false := by
  rcases Nat.lt_or_gt_of_ne hij with h1 | h1
  · exact List.pairwise_iff_getElem.1 h i j hi hj h1
  · exact sameK_symm (List.pairwise_iff_getElem.1 h j i hj hi h1)
theorem Dis.filter {L : List En} (h : Dis L) (p : En → Bool) : Dis (L.filter p) := List.Pairwise.filter _ h

/-- The place of the least of the first i. -/
def minK (L : List En) : Nat → Nat
  | 0 => 0
  | i + 1 => match L[i]?, L[minK L i]? with
    | some a, some b => if ltE a b then i else minK L i
    | _, _ => minK L i
def minP (L : List En) : Nat := minK L L.length
theorem minK_step {L : List En} {i : Nat} (hi : i < L.length) (hk : minK L i < L.length) : minK L (i + 1) = if ltE L[i] L[minK L i] then i else minK L i := by
  rw [minK, List.getElem?_eq_getElem hi, List.getElem?_eq_getElem hk]
theorem minK_lt {L : List En} : ∀ {i : Nat}, 1 ≤ i → i ≤ L.length → minK L i < i := by
  intro i
  induction i with
  | zero => intro h _; omega
  | succ i ih =>
    intro _ hi
    by_cases h0 : i = 0
    · subst h0
      rw [minK_step (by omega) (by show 0 < _; omega)]
      split
      · omega
      · show minK L 0 < 1; simp [minK]
    · have := ih (by omega) (by omega)
      rw [minK_step (by omega) (by omega)]
      split <;> omega
theorem minK_least {L : List En} (hd : Dis L) (ho : ∀ e ∈ L, OkE e) : ∀ {i : Nat} (_ : 1 ≤ i) (hi : i ≤ L.length) (hk : minK L i < L.length) (j : Nat) (hj : j < i), j ≠ minK L i → ltE L[minK L i] (L[j]'(by omega)) = true := by
  intro i
  induction i with
  | zero => intro h; omega
  | succ i ih =>
    intro _ hi hk j hj hne
    by_cases h0 : i = 0
    · subst h0
      have e0 : minK L 1 = 0 := by have := minK_lt (L := L) (Nat.le_refl 1) (by omega); omega
      rw [e0] at hne
      omega
    · have hm := minK_lt (L := L) (i := i) (by omega) (by omega)
      have hs := minK_step (L := L) (i := i) (by omega) (by omega)
      have hd' := hd.at (i := i) (j := minK L i) (by omega) (by omega) (by omega)
      cases hl : ltE (L[i]'(by omega)) (L[minK L i]'(by omega)) with
      | true =>
        rw [hl, if_pos rfl] at hs
        simp only [hs] at hne ⊢
        by_cases hjm : j = minK L i
        · subst hjm; exact hl
        · exact ltE_trans hl (ih (by omega) (by omega) (by omega) j (by omega) hjm)
      | false =>
        rw [hl, if_neg (by simp)] at hs
        simp only [hs] at hne ⊢
        by_cases hji : j = i
        · subst hji
          exact ltE_total (ho _ (List.getElem_mem _)) (ho _ (List.getElem_mem _)) hl hd'
        · exact ih (by omega) (by omega) (by omega) j (by omega) hne
theorem minP_lt {L : List En} (h : 0 < L.length) : minP L < L.length := minK_lt h (Nat.le_refl _)
theorem minP_least {L : List En} (hd : Dis L) (ho : ∀ e ∈ L, OkE e) (h : 0 < L.length) (j : Nat) (hj : j < L.length) (hne : j ≠ minP L) : ltE (L[minP L]'(minP_lt h)) L[j] = true :=
  minK_least hd ho h (Nat.le_refl _) (minP_lt h) j hj hne
/-- What is less than all others is the least. -/
theorem minP_eq {L : List En} (hd : Dis L) (ho : ∀ e ∈ L, OkE e) {i : Nat} (hi : i < L.length) (h : ∀ j (hj : j < L.length), j ≠ i → ltE L[i] L[j] = true) : i = minP L := by
  by_cases e : i = minP L
  · exact e
  · have h1 := minP_least hd ho (by omega) i hi e
    have h2 := h (minP L) (minP_lt (by omega)) (fun e' => e e'.symm)
    have := ltE_trans h1 h2
    rw [ltE_irr] at this
    cases this

/-- What is put, and what goes. -/
def beatsP (L : List En) (n : ByteArray) (t r now : Int) : Bool := L.any fun y => sameK n t y && decide (now < y.u) && decide (r < y.r)
def leftP (L : List En) (n : ByteArray) (t now : Int) : List En := L.filter fun y => !sameK n t y && decide (now < y.u)
def cutP (most : Nat) (L : List En) : List En := if L.length = most then L.eraseIdx (minP L) else L
def mayE (e : En) (now : Int) : Bool := isName e.n.data.toList && decide (1 ≤ e.t) && decide (e.t ≤ 65535) && decide (e.ds ≠ []) && decide (1 ≤ e.r) && decide (e.r ≤ 3) && decide (now < e.u) && decide (0 ≤ now) && decide (now ≤ 1099511627776)
def fdB (n : ByteArray) : ByteArray := ⟨(foldR n.data.toList).toArray⟩
def heldE (e : En) : En := { e with n := fdB e.n }
def putP (most : Nat) (L : List En) (e : En) (now : Int) : List En := if mayE e now && !beatsP L (fdB e.n) e.t e.r now then cutP most (leftP L (fdB e.n) e.t now) ++ [heldE e] else L
def errP (e : En) (now : Int) : Int := if mayE e now then 0 else 1300
def getP (L : List En) (n : ByteArray) (t now : Int) : Option En := L.find? fun y => sameK (fdB n) t y && decide (now < y.u)

theorem fdB_list (n : ByteArray) : (fdB n).data.toList = foldR n.data.toList := by simp [fdB]
theorem mayE_parts {e : En} {now : Int} (h : mayE e now = true) : isName e.n.data.toList = true ∧ 1 ≤ e.t ∧ e.t ≤ 65535 ∧ e.ds ≠ [] ∧ 1 ≤ e.r ∧ e.r ≤ 3 ∧ now < e.u ∧ 0 ≤ now ∧ now ≤ 1099511627776 := by
  unfold mayE at h
  simp only [Bool.and_eq_true, decide_eq_true_eq] at h
  obtain ⟨⟨⟨⟨⟨⟨⟨⟨h1, h2⟩, h3⟩, h4⟩, h5⟩, h6⟩, h7⟩, h8⟩, h9⟩ := h
  exact ⟨h1, h2, h3, h4, h5, h6, h7, h8, h9⟩
theorem held_ok {e : En} {now : Int} (h : mayE e now = true) (hl : e.ds.length ≤ 8796093022000) (hs : ∀ d ∈ e.ds, d.size ≤ 140737488351232) : OkE (heldE e) := by
  obtain ⟨h1, h2, h3, _⟩ := mayE_parts h
  have e1 : foldR e.n.data.toList = foldL e.n.data.toList := by unfold foldR; rw [if_pos h1]
  refine ⟨⟨?_, ?_, by show 0 ≤ e.t; omega, h3⟩, hl, hs⟩
  · show isName (fdB e.n).data.toList = true
    rw [fdB_list, e1, name_fold]; exact h1
  · show foldL (fdB e.n).data.toList = (fdB e.n).data.toList
    rw [fdB_list, e1, fold_twice]

theorem left_ok {L : List En} (h : ∀ e ∈ L, OkE e) (n : ByteArray) (t now : Int) : ∀ e ∈ leftP L n t now, OkE e := fun e he => h e ((List.mem_filter.1 he).1)
theorem cut_mem {most : Nat} {L : List En} {e : En} (h : e ∈ cutP most L) : e ∈ L := by
  unfold cutP at h
  split at h
  · exact List.mem_of_mem_eraseIdx h
  · exact h
theorem cut_len {most : Nat} {L : List En} (h : L.length ≤ most) (hm : 1 ≤ most) : (cutP most L).length + 1 ≤ most := by
  unfold cutP
  split
  · rename_i e; rw [List.length_eraseIdx_of_lt (minP_lt (by omega))]; omega
  · omega
theorem put_ok {most : Nat} {L : List En} {e : En} {now : Int} (h : ∀ e ∈ L, OkE e) (hl : e.ds.length ≤ 8796093022000) (hs : ∀ d ∈ e.ds, d.size ≤ 140737488351232) : ∀ x ∈ putP most L e now, OkE x := by
  intro x hx
  unfold putP at hx
  split at hx
  · rename_i hc
    rcases List.mem_append.1 hx with hx | hx
    · exact left_ok h _ _ _ _ (cut_mem hx)
    · simp at hx; subst hx
      simp only [Bool.and_eq_true] at hc
      exact held_ok hc.1 hl hs
  · exact h x hx
theorem put_len {most : Nat} {L : List En} {e : En} {now : Int} (h : L.length ≤ most) (hm : 1 ≤ most) : (putP most L e now).length ≤ most := by
  unfold putP
  split
  · have h1 : (leftP L (fdB e.n) e.t now).length ≤ most := Nat.le_trans (List.length_filter_le _ _) h
    have := cut_len h1 hm
    simp; omega
  · exact h
theorem Dis.sub {L M : List En} (h : Dis L) (hs : M.Sublist L) : Dis M := List.Pairwise.sublist hs h
theorem cut_dis {most : Nat} {L : List En} (h : Dis L) : Dis (cutP most L) := by
  unfold cutP
  split
  · exact h.sub (List.eraseIdx_sublist _ _)
  · exact h
theorem Dis.snoc {L : List En} {e : En} (h : Dis L) (hn : ∀ x ∈ L, sameK e.n e.t x = false) : Dis (L ++ [e]) := by
  refine List.pairwise_append.2 ⟨h, List.pairwise_singleton _ _, fun x hx y hy => ?_⟩
  simp at hy
  subst hy
  exact sameK_symm (hn x hx)
theorem left_not {L : List En} {n : ByteArray} {t now : Int} {x : En} (h : x ∈ leftP L n t now) : sameK n t x = false := by
  unfold leftP at h
  have := (List.mem_filter.1 h).2
  simp only [Bool.and_eq_true, Bool.not_eq_true'] at this
  exact this.1
theorem put_dis {most : Nat} {L : List En} {e : En} {now : Int} (h : Dis L) : Dis (putP most L e now) := by
  unfold putP
  split
  · exact (cut_dis (h.filter _)).snoc (fun x hx => left_not (cut_mem hx))
  · exact h

/-- Striking one is striking all of its name and type. -/
theorem erase_filter : ∀ {L : List En} (_ : Dis L) {i : Nat} (hi : i < L.length), L.filter (fun y => !sameK L[i].n L[i].t y) = L.eraseIdx i := by
  intro L
  induction L with
  | nil => intro _ i hi; simp at hi
  | cons a L ih =>
    intro hd i hi
    have hd2 := List.pairwise_cons.1 hd
    cases i with
    | zero =>
      have : sameK a.n a.t a = true := sameK_iff.2 ⟨rfl, rfl⟩
      simp only [List.getElem_cons_zero, List.filter_cons, this, List.eraseIdx_cons_zero]
      simp only [Bool.not_true, Bool.false_eq_true, if_false]
      exact List.filter_eq_self.2 (fun y hy => by rw [hd2.1 y hy]; rfl)
    | succ i =>
      simp only [List.getElem_cons_succ, List.filter_cons, List.eraseIdx_cons_succ]
      have hi' : i < L.length := by simp at hi; omega
      have : sameK L[i].n L[i].t a = false := sameK_symm (hd2.1 _ (List.getElem_mem _))
      rw [this, Bool.not_false, if_pos rfl, ih hd2.2 hi']

/-- All, by names and types. -/
def befE (x e : En) : Bool := decide (cK x.n x.t e.n e.t < 0)
def insE (e : En) (out : List En) : List En := out.takeWhile (fun x => befE x e) ++ e :: out.dropWhile (fun x => befE x e)
def allP (L : List En) : List En := L.foldl (fun out e => insE e out) []
def RisE (L : List En) : Prop := L.Pairwise (fun x y => cK x.n x.t y.n y.t < 0)
theorem insE_perm (e : En) (out : List En) : (insE e out).Perm (e :: out) := by
  unfold insE
  have : (out.takeWhile (fun x => befE x e) ++ out.dropWhile (fun x => befE x e)) = out := List.takeWhile_append_dropWhile
  exact List.perm_middle.trans (by rw [this])
theorem insE_rise {e : En} {out : List En} (h : RisE out) (ho : ∀ x ∈ out, OkE x) (he : OkE e) (hn : ∀ x ∈ out, sameK e.n e.t x = false) : RisE (insE e out) := by
  unfold insE
  induction out with
  | nil => exact List.pairwise_singleton _ _
  | cons a out ih =>
    have h2 := List.pairwise_cons.1 h
    have ih2 := ih h2.2 (fun x hx => ho x (List.mem_cons_of_mem _ hx)) (fun x hx => hn x (List.mem_cons_of_mem _ hx))
    cases hb : befE a e with
    | true =>
      rw [List.takeWhile_cons_of_pos (p := fun x => befE x e) hb, List.dropWhile_cons_of_pos (p := fun x => befE x e) hb]
      refine List.pairwise_cons.2 ⟨fun x hx => ?_, ih2⟩
      rcases List.mem_append.1 hx with hx | hx
      · exact h2.1 x ((List.takeWhile_sublist _).subset hx)
      · rcases List.mem_cons.1 hx with rfl | hx
        · unfold befE at hb; simpa using hb
        · exact h2.1 x (List.dropWhile_sublist _ |>.subset hx)
    | false =>
      rw [List.takeWhile_cons_of_neg (p := fun x => befE x e) (by rw [hb]; simp), List.dropWhile_cons_of_neg (p := fun x => befE x e) (by rw [hb]; simp), List.nil_append]
      have hlt : cK e.n e.t a.n a.t < 0 := by
        unfold befE at hb
        simp only [decide_eq_false_iff_not] at hb
        have h3 := cK_anti a.n a.t e.n e.t
        have h4 : cK a.n a.t e.n e.t ≠ 0 := fun e' => by
          have h5 := cK_zero (ho a (List.mem_cons_self ..)).k he.k e'
          have h6 := hn a (List.mem_cons_self ..)
          rw [sameK_iff.2 h5] at h6
          cases h6
        omega
      refine List.pairwise_cons.2 ⟨fun x hx => ?_, h⟩
      rcases List.mem_cons.1 hx with rfl | hx
      · exact hlt
      · exact cK_trans hlt (h2.1 x hx)
theorem all_fold : ∀ (L out : List En), (L.foldl (fun out e => insE e out) out).Perm (out ++ L) := by
  intro L
  induction L with
  | nil => intro out; simp
  | cons e L ih =>
    intro out
    refine (ih (insE e out)).trans ?_
    refine ((insE_perm e out).append_right L).trans ?_
    exact List.perm_middle.symm
theorem all_perm (L : List En) : (allP L).Perm L := by have := all_fold L []; rw [List.nil_append] at this; exact this
theorem all_rise_fold : ∀ (L out : List En), RisE out → (∀ x ∈ out, OkE x) → (∀ x ∈ L, OkE x) → Dis L → (∀ x ∈ L, ∀ y ∈ out, sameK x.n x.t y = false) → RisE (L.foldl (fun out e => insE e out) out) := by
  intro L
  induction L with
  | nil => intro out h _ _ _ _; exact h
  | cons e L ih =>
    intro out h ho hL hd hn
    have hd2 := List.pairwise_cons.1 hd
    refine ih _ (insE_rise h ho (hL e (List.mem_cons_self ..)) (hn e (List.mem_cons_self ..))) (fun x hx => ?_) (fun x hx => hL x (List.mem_cons_of_mem _ hx)) hd2.2 (fun x hx y hy => ?_)
    · rcases List.mem_cons.1 ((insE_perm e out).mem_iff.1 hx) with rfl | hx
      · exact hL x (List.mem_cons_self ..)
      · exact ho x hx
    · rcases List.mem_cons.1 ((insE_perm e out).mem_iff.1 hy) with rfl | hy
      · exact sameK_symm (hd2.1 x hx)
      · exact hn x (List.mem_cons_of_mem _ hx) y hy
theorem all_rise {L : List En} (ho : ∀ x ∈ L, OkE x) (hd : Dis L) : RisE (allP L) := all_rise_fold L [] List.Pairwise.nil (fun x hx => by simp at hx) ho hd (fun _ _ y hy => by simp at hy)
/-- Two rising rows of the same entries are one. -/
theorem rise_one : ∀ {L M : List En}, RisE L → RisE M → L.Perm M → L = M := by
  intro L
  induction L with
  | nil => intro M _ _ hp; exact (List.Perm.nil_eq hp)
  | cons a L ih =>
    intro M hL hM hp
    cases M with
    | nil => exact absurd hp.length_eq (by simp)
    | cons b M =>
      have hL2 := List.pairwise_cons.1 hL
      have hM2 := List.pairwise_cons.1 hM
      have hab : a = b := by
        rcases List.mem_cons.1 (hp.mem_iff.1 (List.mem_cons_self ..)) with h | h
        · exact h
        · rcases List.mem_cons.1 (hp.mem_iff.2 (List.mem_cons_self ..)) with h' | h'
          · exact h'.symm
          · have h1 := hM2.1 a h
            have h2 := hL2.1 b h'
            have := cK_anti a.n a.t b.n b.t
            omega
      subst hab
      rw [ih hL2.2 hM2.2 (List.Perm.cons_inv hp)]
theorem all_len (L : List En) : (allP L).length = L.length := (all_perm L).length_eq

end Go.Proofs.YtnjgdfmldjgloaaGreat

/- What a cut holds, plainly: bindings in their row, which are live, which are learned; levels of greatest ends. -/
namespace Go.Proofs.YtnjgdfmldjgloaaGreat
open Pl
namespace Cu

/-- A binding of a cut: its host's place, an address, an end. -/
structure Bd where
  h : Nat
  a : Int
  u : Int
/-- A cut. -/
structure Ct where
  n : ByteArray
  hs : List ByteArray
  fr : ByteArray
  u : Int
  bs : List Bd
def liveB (now : Int) (bs : List Bd) : List Bd := bs.filter fun b => decide (now < b.u)
def sameS (x b : Bd) : Bool := decide (x.h = b.h) && decide (x.a = b.a)
def stopB (now : Int) (bs : List Bd) (b : Bd) : Bool := decide (16 ≤ (liveB now bs).length) || (liveB now bs).any fun x => sameS x b
def learnB (bs : List Bd) (b : Bd) (now : Int) : List Bd := if stopB now bs b then bs else bs ++ [b]
def lastI (t : Int) : Int := min (max t 1) 86400
theorem lastI_lo (t : Int) : 1 ≤ lastI t := by unfold lastI; omega
theorem lastI_hi (t : Int) : lastI t ≤ 86400 := by unfold lastI; omega
theorem learn_len (bs : List Bd) (b : Bd) (now : Int) : (learnB bs b now).length ≤ bs.length + 1 := by
  unfold learnB; split
  · omega
  · simp

/-- The greatest of a row. -/
def maxL : List Int → Int
  | [] => 0
  | x :: xs => xs.foldl max x
theorem foldl_max_le (xs : List Int) : ∀ (x : Int), x ≤ xs.foldl max x := by
  induction xs with
  | nil => intro x; exact Int.le_refl _
  | cons y xs ih => intro x; exact Int.le_trans (Int.le_max_left x y) (ih _)
theorem foldl_max_mem (xs : List Int) : ∀ (x y : Int), y ∈ xs → y ≤ xs.foldl max x := by
  induction xs with
  | nil => intro x y h; simp at h
  | cons z xs ih =>
    intro x y h
    rcases List.mem_cons.1 h with rfl | h
    · exact Int.le_trans (Int.le_max_right x y) (foldl_max_le xs _)
    · exact ih _ y h
theorem maxL_le {xs : List Int} {x : Int} (h : x ∈ xs) : x ≤ maxL xs := by
  cases xs with
  | nil => simp at h
  | cons y xs =>
    rcases List.mem_cons.1 h with rfl | h
    · exact foldl_max_le xs _
    · exact foldl_max_mem xs _ _ h
theorem maxL_snoc {xs : List Int} (h : xs ≠ []) (u : Int) : maxL (xs ++ [u]) = max (maxL xs) u := by
  cases xs with
  | nil => exact absurd rfl h
  | cons y xs => simp [maxL, List.foldl_append]
theorem maxL_take_succ {xs : List Int} {k : Nat} (h0 : 0 < k) (hk : k < xs.length) : maxL (xs.take (k + 1)) = max (maxL (xs.take k)) xs[k] := by
  rw [List.take_succ_eq_append_getElem hk]
  exact maxL_snoc (by intro e; have := congrArg List.length e; rw [List.length_take, List.length_nil] at this; omega) _

/-- The groups of sixteen, the greatest of each. -/
def seg {α : Type} (xs : List α) (i : Nat) : List α := (xs.drop (16 * i)).take 16
def grp (n : Nat) : Nat := (n + 15) / 16
def lvl1 (us : List Int) : List Int := (List.range (grp us.length)).map fun i => maxL (seg us i)
theorem lvl1_len (us : List Int) : (lvl1 us).length = grp us.length := by simp [lvl1]
theorem lvl1_at (us : List Int) (i : Nat) (h : i < (lvl1 us).length) : (lvl1 us)[i] = maxL (seg us i) := by simp [lvl1]
/-- A number is laid at a place, or just behind the end. -/
def raiseL (us : List Int) (k : Nat) (u : Int) : List Int := if k = us.length then us ++ [u] else us.set k (max (us.getD k 0) u)
theorem seg_snoc_same {us : List Int} (u : Int) {i : Nat} (h : 16 * (i + 1) ≤ us.length) : seg (us ++ [u]) i = seg us i := by
  unfold seg
  rw [List.drop_append_of_le_length (by omega), List.take_append_of_le_length (by simp; omega)]
theorem seg_snoc_last {us : List Int} (u : Int) {i : Nat} (h1 : 16 * i ≤ us.length) (h2 : us.length < 16 * (i + 1)) : seg (us ++ [u]) i = seg us i ++ [u] := by
  unfold seg
  rw [List.drop_append_of_le_length (by omega)]
  rw [List.take_of_length_le (by simp; omega), List.take_of_length_le (by simp; omega)]
theorem seg_len {α : Type} (us : List α) (i : Nat) : (seg us i).length = min 16 (us.length - 16 * i) := by simp [seg]
theorem lvl1_snoc (us : List Int) (u : Int) : lvl1 (us ++ [u]) = raiseL (lvl1 us) (us.length / 16) u := by
  have hl := lvl1_len us
  unfold grp at hl
  unfold raiseL
  rw [hl]
  by_cases h : us.length % 16 = 0
  · have e1 : us.length / 16 = (us.length + 15) / 16 := by omega
    rw [if_pos e1]
    have e2 : grp (us ++ [u]).length = grp us.length + 1 := by unfold grp; simp; omega
    unfold lvl1
    rw [e2, List.range_succ, List.map_append]
    congr 1
    · refine List.map_congr_left (fun i hi => ?_)
      rw [seg_snoc_same]
      have := List.mem_range.1 hi
      unfold grp at this
      omega
    · simp only [List.map_cons, List.map_nil]
      rw [seg_snoc_last u (by unfold grp; omega) (by unfold grp; omega)]
      have : seg us (grp us.length) = [] := List.eq_nil_of_length_eq_zero (by rw [seg_len]; unfold grp; omega)
      rw [this]; rfl
  · rw [if_neg (by omega)]
    have e2 : grp (us ++ [u]).length = grp us.length := by unfold grp; simp; omega
    refine List.ext_getElem (by rw [lvl1_len, e2, List.length_set, lvl1_len]) (fun i h1 h2 => ?_)
    rw [lvl1_at, List.getElem_set]
    rw [lvl1_len, e2] at h1
    have h1' := h1
    unfold grp at h1'
    by_cases hi : us.length / 16 = i
    · rw [if_pos hi, seg_snoc_last u (by omega) (by omega)]
      rw [List.getD_eq_getElem?_getD, List.getElem?_eq_getElem (by rw [lvl1_len]; unfold grp; omega), Option.getD_some, lvl1_at, hi]
      refine maxL_snoc (fun e => ?_) _
      have := congrArg List.length e
      rw [seg_len] at this
      simp at this
      omega
    · rw [if_neg hi, seg_snoc_same u (by omega), lvl1_at]

/-- The levels of a row of at most 256. -/
def lvls (us : List Int) : List (List Int) := if us.length = 0 then [] else if us.length ≤ 16 then [us] else [us, lvl1 us]
def raiseA : List (List Int) → Nat → Int → List (List Int)
  | [], _, _ => []
  | x :: xs, k, u => raiseL x k u :: raiseA xs (k / 16) u
def preL (xs : List (List Int)) : List (List Int) := if xs.length = 0 then [[]] else xs
def postL (xs : List (List Int)) : List (List Int) := match xs.getLast? with | some t => if 16 < t.length then xs ++ [lvl1 t] else xs | none => xs
theorem raise_end (us : List Int) (u : Int) : raiseL us us.length u = us ++ [u] := by unfold raiseL; rw [if_pos rfl]
theorem lvls_add (us : List Int) (u : Int) (hn : us.length < 256) : postL (raiseA (preL (lvls us)) us.length u) = lvls (us ++ [u]) := by
  by_cases h0 : us.length = 0
  · have : us = [] := List.eq_nil_of_length_eq_zero h0
    subst this
    rfl
  · by_cases h1 : us.length ≤ 16
    · have e1 : lvls us = [us] := by unfold lvls; rw [if_neg h0, if_pos h1]
      rw [e1]
      have e2 : raiseA (preL [us]) us.length u = [us ++ [u]] := by simp [preL, raiseA, raise_end]
      rw [e2]
      unfold postL lvls
      simp only [List.getLast?_singleton, List.length_append, List.length_cons, List.length_nil]
      by_cases h2 : us.length = 16
      · rw [if_pos (by omega), if_neg (by omega), if_neg (by omega)]; rfl
      · rw [if_neg (by omega), if_neg (by omega), if_pos (by omega)]
    · have e1 : lvls us = [us, lvl1 us] := by unfold lvls; rw [if_neg h0, if_neg h1]
      rw [e1]
      have e2 : raiseA (preL [us, lvl1 us]) us.length u = [us ++ [u], lvl1 (us ++ [u])] := by simp [preL, raiseA, raise_end, lvl1_snoc]
      rw [e2]
      unfold postL
      have hl := lvl1_len (us ++ [u])
      unfold grp at hl
      have h3 : ¬ 16 < (lvl1 (us ++ [u])).length := by rw [hl]; simp; omega
      simp only [List.getLast?_cons_cons, List.getLast?_singleton]
      rw [if_neg h3]
      unfold lvls
      rw [if_neg (by simp), if_neg (by simp; omega)]
/-- What is raised lies within, or just behind. -/
def inL : List (List Int) → Nat → Prop
  | [], _ => True
  | x :: xs, k => k ≤ x.length ∧ inL xs (k / 16)
theorem lvls_in (us : List Int) : inL (preL (lvls us)) us.length := by
  unfold lvls preL
  by_cases h0 : us.length = 0
  · simp [h0, inL]
  · rw [if_neg h0]
    by_cases h1 : us.length ≤ 16
    · simp [h1, inL]
    · rw [if_neg h1]
      simp only [List.length_cons, List.length_nil]
      rw [if_neg (by omega)]
      refine ⟨Nat.le_refl _, ?_, trivial⟩
      rw [lvl1_len]; unfold grp; omega

/-- Which are live, group by group. -/
theorem live_app (now : Int) (a b : List Bd) : liveB now (a ++ b) = liveB now a ++ liveB now b := by unfold liveB; rw [List.filter_append]
theorem seg_map {α β : Type} (f : α → β) (xs : List α) (i : Nat) : seg (xs.map f) i = (seg xs i).map f := by unfold seg; rw [← List.map_drop, ← List.map_take]
theorem live_none {now : Int} {bs : List Bd} {i : Nat} (h : maxL (seg (bs.map Bd.u) i) ≤ now) : liveB now (seg bs i) = [] := by
  unfold liveB
  refine List.filter_eq_nil_iff.2 (fun b hb => ?_)
  have h1 : b.u ∈ seg (bs.map Bd.u) i := by rw [seg_map]; exact List.mem_map.2 ⟨b, hb, rfl⟩
  have := maxL_le h1
  simp; omega

end Cu
end Go.Proofs.YtnjgdfmldjgloaaGreat

/- Rows of texts: how they lie, and what the laws' helpers do with them. -/
namespace Go.Proofs.YtnjgdfmldjgloaaGreat
open Go.RowKit
open Pl
/-- Texts as cells. -/
def tC (ds : List ByteArray) : List Value := ds.map Value.string
theorem tC_len (ds : List ByteArray) : (tC ds).length = ds.length := by simp [tC]
theorem tC_app (a b : List ByteArray) : tC (a ++ b) = tC a ++ tC b := by simp [tC]
theorem tC_one (a : List ByteArray) : ∀ u ∈ tC a, u.oneCell' = true := by
  intro u hu
  simp only [tC, List.mem_map] at hu
  obtain ⟨m, _, rfl⟩ := hu
  rfl
theorem tC_at {ds : List ByteArray} {k : Nat} (hk : k < ds.length) : (tC ds)[k]? = some (.string ds[k]) := by
  unfold tC; rw [List.getElem?_map, List.getElem?_eq_getElem hk]; rfl
theorem str_eqd (a b : ByteArray) : (a.toList == b.toList) = decide (a = b) := by
  rw [Bool.eq_iff_iff, beq_iff_eq, decide_eq_true_eq]
  exact ⟨fun h => bytes_ext (by rw [ByteArray.toList_eq, ByteArray.toList_eq] at h; exact h), fun e => by rw [e]⟩
set_option maxRecDepth 20000 in
theorem sameT_any (v u : Value) (a b : List ByteArray) (w : World) (h1 : Row w v a.length (tC a)) (h2 : Row w u b.length (tC b)) (hm1 : a.length ≤ maxLen) (hm2 : b.length ≤ maxLen) (r : Bool) (hr : decide (a = b) = r) :
    Calls Tryz.prog 27 #[v, u] w fun e w' => e = .returned (.bool r) ∧ Below w.heap.size w w' := by
  obtain ⟨N, hN⟩ : ∃ N, N = a.length := ⟨_, rfl⟩
  obtain ⟨M, hM⟩ : ∃ M, M = b.length := ⟨_, rfl⟩
  obtain ⟨x, c, rfl⟩ := row_slice h1
  obtain ⟨x', c', rfl⟩ := row_slice h2
  have HN : Hid (N = a.length) := hN
  have HM : Hid (M = b.length) := hM
  rw [← hN] at h1 hm1 ⊢
  rw [← hM] at h2 hm2 ⊢
  unfold maxLen at hm1 hm2
  have HR1 : Hid (Row w (.slice x N c) N (tC a)) := h1
  have HR2 : Hid (Row w (.slice x' M c') M (tC b)) := h2
  have HR : Hid (decide (a = b) = r) := hr
  have hb : Below w.heap.size w w := Below.refl _ _
  by_cases hl : N = M
  · have HL : Hid (N = M) := hl
    have hne : ((N : Int) != (M : Int)) = false := by rw [hl]; simp
    clear h1 h2 hr hN hM hl
    go_enter Tryz.func27, Tryz.ntmps27
    go_wp2
    go_loopw [5] (fun i wr => ∃ k : Nat, k ≤ N ∧ i = .int .i64 (k : Int) ∧ Hid (a.take k = b.take k) ∧ Below w.heap.size w wr) (fun i _ => N - (intOf i).toNat)
    case atStart => exact ⟨0, Nat.zero_le _, rfl, by unfold Hid; simp, hb⟩
    case round =>
      clear hb
      obtain ⟨k, hk, rfl, HT, hb⟩ := hrel
      by_cases hkn : k < N
      · have hkn' : (k : Int) < (N : Int) := by omega
        have hka : k < a.length := by have := HN.out; omega
        have hkb : k < b.length := by have := HM.out; have := HL.out; omega
        have hkm' : (k : Int) < (M : Int) := by have := HL.out; omega
        obtain ⟨g, o, cap, hx, hc⟩ := row_at (HR1.out.below hb) (by omega)
        obtain ⟨g', o', cap', hx', hc'⟩ := row_at (HR2.out.below hb) (by omega)
        simp only [Value.slice.injEq] at hx hx'
        obtain ⟨rfl, -, rfl⟩ := hx
        obtain ⟨rfl, -, rfl⟩ := hx'
        have d0 := hc k _ (tC_at hka)
        have e0 := hc' k _ (tC_at hkb)
        obtain ⟨p, hp⟩ : ∃ p, p = a[k] := ⟨_, rfl⟩
        obtain ⟨q, hq⟩ : ∃ q, q = b[k] := ⟨_, rfl⟩
        have HP : Hid (p = a[k]) := hp
        have HQ : Hid (q = b[k]) := hq
        rw [← hp] at d0
        rw [← hq] at e0
        clear hc hc' hp hq
        by_cases e : p = q
        · have HT2 : Hid (a.take (k + 1) = b.take (k + 1)) := by
            unfold Hid
            rw [List.take_succ_eq_append_getElem hka, List.take_succ_eq_append_getElem hkb, HT.out, ← HP.out, ← HQ.out, e]
          subst e
          go_wp2
          go_region
          go_wp2
          go_roundw
          case rel => exact ⟨k + 1, by omega, by go_num, HT2, next hb (below_drew ⟨1, rfl⟩)⟩
          case measure => simp [intOf]; omega
        · have hpq : (p.toList == q.toList) = false := by rw [str_eqd]; simpa using e
          have HF : Hid (r = false) := by
            unfold Hid
            rw [← HR.out, decide_eq_false_iff_not]
            rintro rfl
            exact e (HP.out.trans HQ.out.symm)
          clear e
          go_wp2
          go_region
          go_wp2
          go_ret
          exact ⟨ret_bool HF.out.symm, next hb (below_drew ⟨1, rfl⟩)⟩
      · have hkn' : decide (k < N) = false := by simpa using hkn
        have HF : Hid (r = true) := by
          unfold Hid
          rw [← HR.out, decide_eq_true_eq]
          have h1 := HT.out
          have h2 := HN.out
          have h3 := HM.out
          have h4 := HL.out
          rw [List.take_of_length_le (by omega), List.take_of_length_le (by omega)] at h1
          exact h1
        go_wp2
        go_ret
        exact ⟨ret_bool HF.out.symm, hb⟩
  · have hne : ((N : Int) != (M : Int)) = true := by simp; omega
    have HF : Hid (r = false) := by
      unfold Hid
      rw [← hr, decide_eq_false_iff_not]
      rintro rfl
      omega
    clear h1 h2 hr hl HR hN hM
    go_enter Tryz.func27, Tryz.ntmps27
    go_wp2
    go_ret
    exact ⟨ret_bool HF.out.symm, hb⟩
theorem info9' : (Tryz.prog.info? 9).map (fun i => (i.zero, i.size, i.bytes)) = some (some (.string ⟨#[]⟩), 1, 16) := by kernel_rfl
/-- Rows that were lent: their cells, and the marks behind them. -/
def Lies (w : World) (g : Nat) (xs : List Value) : Prop := ∀ j u, xs[j]? = some u → w.cell? ⟨g, j, none⟩ = some u
theorem Lies.below {w w' : World} {g : Nat} {xs : List Value} (h : Lies w g xs) (hb : Below w.heap.size w w') : Lies w' g xs := fun j u hu => by
  have h1 := h j u hu
  rw [hb.cell (World.block_lt_of_cell? _ _ h1)]; exact h1
theorem Lies.turn {S : Nat → Prop} {w w' : World} {g : Nat} {xs : List Value} (h : Lies w g xs) (ht : Turn S w w') (hs : ¬ S g) : Lies w' g xs := fun j u hu => by
  have h1 := h j u hu
  have hlt := World.block_lt_of_cell? _ _ h1
  have hb := ht.block g hlt hs
  unfold World.cell? at h1 ⊢
  simp only [hb]
  exact h1
theorem Lies.row {w : World} {g cap n : Nat} {xs ys : List Value} (h : Lies w g (xs ++ ys)) : Row w (.slice (some ⟨g, 0, none⟩) n cap) n xs := by
  refine .inr ⟨g, 0, none, cap, rfl, fun _ => rfl, fun j u hu => ?_⟩
  rw [Nat.zero_add]
  refine h j u ?_
  rw [List.getElem?_append_left (List.getElem?_eq_some_iff.1 hu).1]
  exact hu
theorem lies_own {w : World} {base e z g cap N : Nat} {xs : List Value} (h : w.ownsRow base e z (.slice (some ⟨g, 0, none⟩) N cap) N xs) : Lies w g xs ∧ N ≤ cap := by
  refine ⟨fun j u hu => ?_, ?_⟩
  · have hj := (List.getElem?_eq_some_iff.1 hu).1
    rw [h.cellAt j (by rw [← h.1]; exact hj), hu]
  · rcases h.2 with ⟨e, _⟩ | ⟨g', cap', cur, e, _, _, hnc, _⟩
    · simp at e
    · simp at e; omega
/-- The marks behind texts that were lent. -/
def mkT : List ByteArray := [⟨#[126, 114, 111, 111, 109]⟩, ⟨#[126, 98, 101, 104, 105, 110, 100]⟩]
theorem copyT_any (v : Value) (ds : List ByteArray) (w : World) (h : Row w v ds.length (tC ds)) (hn : ds.length ≤ 8796093022000) :
    Calls Tryz.prog 39 #[v] w fun e w' => ∃ v', e = .returned v' ∧ w'.ownsRow w.heap.size 9 1 v' ds.length (tC ds) ∧ Below w.heap.size w w' := by
  obtain ⟨i0, hi, hz0, hz1, hz2⟩ := info_parts info9'
  have hb := lay (Below.refl w.heap.size w) (.cells #[] 9)
  have h2 := h.below hb
  have hown := own_blk (B := w.heap.size) (z := 1) (n := 0) (xs := []) (Blk.new w #[] 9) (Nat.le_refl _) rfl rfl (Nat.zero_le _)
  obtain ⟨x, c, rfl⟩ := row_slice h
  go_enter Tryz.func39, Tryz.ntmps39
  go_wp2_with (at_builtin; refine wpList_appG _ rfl (.tmp 3) (.tmp 4) 36 9 i0 _ 1 16 Tryz.underlying36 hi hz0 hz1 hz2 rfl (by decide) rfl w.heap.size _ 0 [] rfl hown _ ds.length (tC ds) rfl h2 (by rw [tC_len, Nat.mul_one]) (tC_one ds) (by omega) (by unfold maxLen; omega) hb.size ?_; intro v' w2 h1 h3 _)
  go_ret
  exact ⟨_, rfl, by simpa using h1, hb.grown h3 hb.size (fun j e => (hown.lt j e).1)⟩
theorem lendT_any (v : Value) (ds : List ByteArray) (w : World) (h : Row w v ds.length (tC ds)) (hn : ds.length ≤ 8796093022000) :
    Calls Tryz.prog 11 #[v] w fun e w' => ∃ g cap, e = .returned (.slice (some ⟨g, 0, none⟩) ds.length cap) ∧ ds.length + 2 ≤ cap ∧ Lies w' g (tC ds ++ tC mkT) ∧ w.heap.size ≤ g ∧ Below w.heap.size w w' := by
  obtain ⟨i0, hi, hz0, hz1, hz2⟩ := info_parts info9'
  obtain ⟨N, hN⟩ : ∃ N, N = ds.length := ⟨_, rfl⟩
  have HN : Hid (N = ds.length) := hN
  obtain ⟨x, c, hv⟩ := row_slice h
  have hc := copyT_any v ds w h hn
  rw [← hN] at hv hn ⊢
  subst hv
  clear hN
  go_enter Tryz.func11, Tryz.ntmps11
  go_wp2_with (first
    | (go_at_call 39; go_must (refine hc.mono ?_); rintro e w1 ⟨v1, rfl, hown, hb⟩; rw [← HN.out] at hown)
    | (at_builtin; refine wpList_appG _ rfl (.tmp 5) (.tmp 6) 36 9 i0 _ 1 16 Tryz.underlying36 hi hz0 hz1 hz2 rfl (by decide) rfl w.heap.size _ N (tC ds) rfl (hown.alloc _) (.slice (some ⟨w1.heap.size, 0, none⟩) 2 2) 2 (tC mkT) rfl (Row.of_blk (Blk.new w1 #[.string ⟨#[126, 114, 111, 111, 109]⟩, .string ⟨#[126, 98, 101, 104, 105, 110, 100]⟩] 9) rfl 2 2) rfl (tC_one _) (by omega) (by unfold maxLen; omega) (lay hb _).size ?_; intro v2 w2 h1 h3 _; obtain ⟨g, cap, rfl, _, _⟩ := h1.form (by omega); obtain ⟨hl, hcap⟩ := lies_own h1; have hcap2 : N ≤ cap := (by omega); have hgl := (h1.lt g rfl).1; have hb2 : Below w.heap.size w w2 := (lay hb _).grown h3 (lay hb _).size (fun j e => (hown.lt j e).1); clear h1 h3))
  go_ret
  exact ⟨g, cap, rfl, hcap, hl, hgl, hb2⟩
theorem marksT {w : World} {g : Nat} {ds : List ByteArray} (h : Lies w g (tC ds ++ tC mkT)) : w.cell? ⟨g, ds.length, none⟩ = some (.string ⟨#[126, 114, 111, 111, 109]⟩) ∧ w.cell? ⟨g, ds.length + 1, none⟩ = some (.string ⟨#[126, 98, 101, 104, 105, 110, 100]⟩) := by
  have hl := tC_len ds
  have H : ∀ i u, (tC mkT)[i]? = some u → w.cell? ⟨g, ds.length + i, none⟩ = some u := fun i u hu => h _ _ (by
    rw [List.getElem?_append_right (by omega), hl, show ds.length + i - ds.length = i from by omega]; exact hu)
  exact ⟨H 0 _ rfl, H 1 _ rfl⟩
set_option maxRecDepth 20000 in
theorem keptT_any (g cap : Nat) (u : Value) (ds : List ByteArray) (w : World) (hl : Lies w g (tC ds ++ tC mkT)) (hcap : ds.length + 2 ≤ cap) (h2 : Row w u ds.length (tC ds)) (hn : ds.length ≤ 8796093022000) :
    Calls Tryz.prog 15 #[.slice (some ⟨g, 0, none⟩) ds.length cap, u] w fun e w' => e = .returned (.bool true) ∧ Below w.heap.size w w' := by
  have hsame := sameT_any _ u ds ds w (hl.row (cap := cap) (n := ds.length)) h2 (by unfold maxLen; omega) (by unfold maxLen; omega) true (by simp)
  have HM : Hid (Lies w g (tC ds ++ tC mkT)) := hl
  obtain ⟨y, d, e2⟩ := row_slice h2
  obtain ⟨N, hN⟩ : ∃ N, N = ds.length := ⟨_, rfl⟩
  have HN : Hid (N = ds.length) := hN
  rw [← hN] at hsame e2 hn hcap ⊢
  subst e2
  clear hN h2 hl
  have hcap2 : (N : Int) + 2 ≤ (cap : Int) := by omega
  go_enter Tryz.func15, Tryz.ntmps15
  go_wp2_with (go_at_call 27; go_must (refine hsame.mono ?_); rintro e w1 ⟨rfl, b1⟩; have mm := marksT (HM.out.below b1); rw [← HN.out] at mm; obtain ⟨m0, m1⟩ := mm)
  go_ret
  exact ⟨rfl, b1⟩
/-- From the place j on there are n texts, none of them too great. -/
def TextsF (xs : List Value) (j n : Nat) : Prop := ∀ i, j ≤ i → i < n → ∃ s : ByteArray, xs[i]? = some (.string s) ∧ s.size ≤ 140737488351232
theorem TextsF.set {xs : List Value} {j n : Nat} (h : TextsF xs j n) (v : Value) : TextsF (xs.set j v) (j + 1) n := by
  intro i hi hn
  obtain ⟨s, h1, h2⟩ := h i (by omega) hn
  exact ⟨s, by rw [List.getElem?_set_ne (by omega)]; exact h1, h2⟩
theorem textsF_tC {ds : List ByteArray} (h : ∀ d ∈ ds, d.size ≤ 140737488351232) : TextsF (tC ds) 0 ds.length := fun i _ hi => ⟨ds[i], tC_at hi, h _ (List.getElem_mem _)⟩
set_option maxRecDepth 20000 in
theorem spoilT_far {B n cap : Nat} {y : Option Addr} {xs : List Value} {w : World} (hown : w.ownsRow B 9 1 (.slice y n cap) n xs) (hi : TextsF xs 0 n) (hn : n ≤ 8796093022000) :
    Calls Tryz.prog 17 #[.slice y n cap] w fun e w' => e = .returned (.tuple #[]) ∧ Turn (fun k => (Value.slice y n cap).ownBlock = some k) w w' := by
  have HT : Hid (Turn (fun k => (Value.slice y n cap).ownBlock = some k) w w) := Turn.refl _ _
  by_cases h0 : n = 0
  · subst h0
    clear hown hi
    go_enter Tryz.func17, Tryz.ntmps17
    go_wp2
    go_loopw [2] (fun i wr => i = .int .i64 0 ∧ wr = w) (fun _ _ => 0)
    case atStart => exact ⟨rfl, rfl⟩
    case round =>
      obtain ⟨rfl, rfl⟩ := hrel
      go_wp2
      go_end0
      exact ⟨rfl, HT.out⟩
  · obtain ⟨g, cap', e1, _, _⟩ := hown.form (by omega)
    simp only [Value.slice.injEq, true_and] at e1
    obtain ⟨rfl, rfl⟩ := e1
    have HS : Hid (w.ownsRow B 9 1 (.slice (some ⟨g, 0, none⟩) n cap) n xs ∧ TextsF xs 0 n ∧ Turn (fun k => (Value.slice (some ⟨g, 0, none⟩) n cap).ownBlock = some k) w w) := ⟨hown, hi, HT.out⟩
    clear hown hi HT
    go_enter Tryz.func17, Tryz.ntmps17
    go_wp2
    go_loopw [2] (fun i wr => ∃ (j : Nat) (xs' : List Value), j ≤ n ∧ i = .int .i64 (j : Int) ∧ Hid (wr.ownsRow B 9 1 (.slice (some ⟨g, 0, none⟩) n cap) n xs' ∧ TextsF xs' j n ∧ Turn (fun k => (Value.slice (some ⟨g, 0, none⟩) n cap).ownBlock = some k) w wr)) (fun i _ => n - (intOf i).toNat)
    case atStart => exact ⟨0, xs, Nat.zero_le _, rfl, HS⟩
    case round =>
      clear HS
      obtain ⟨j, xs', hj, rfl, HS⟩ := hrel
      by_cases hjn : j < n
      · obtain ⟨s, ht, hs⟩ := HS.out.2.1 j (Nat.le_refl _) hjn
        have c1 : wr.cell? ⟨g, j, none⟩ = some (.string s) := by rw [HS.out.1.cellAt j (by omega)]; exact ht
        have f1 := HS.out.1.frozenAt j
        have HST : Hid ((wr.setCell ⟨g, j, none⟩ (.string (⟨#[126]⟩ ++ s))).ownsRow B 9 1 (.slice (some ⟨g, 0, none⟩) n cap) n (xs'.set j (.string (⟨#[126]⟩ ++ s))) ∧ TextsF (xs'.set j (.string (⟨#[126]⟩ ++ s))) (j + 1) n ∧ Turn (fun k => (Value.slice (some ⟨g, 0, none⟩) n cap).ownBlock = some k) w (wr.setCell ⟨g, j, none⟩ (.string (⟨#[126]⟩ ++ s)))) :=
          ⟨(HS.out.1.stored _ _).1, HS.out.2.1.set _, HS.out.2.2.same (Turn.of_set (S := fun k => (Value.slice (some ⟨g, 0, none⟩) n cap).ownBlock = some k) wr (p := ⟨g, j, none⟩) rfl _)⟩
        have zz : ∀ u : World, (Op.stringOp .add ⟨#[126]⟩ s).run Tryz.prog u = .ok (.string (⟨#[126]⟩ ++ s)) u := fun u => run_string_add_sum u _ s (by show 1 + s.size ≤ _; omega)
        clear ht
        go_wp2
        go_roundw
        case rel => exact ⟨j + 1, _, by omega, by go_num, HST.out⟩
        case measure => simp [intOf]; omega
      · have hjn' : decide (j < n) = false := by simpa using hjn
        go_wp2
        go_end0
        exact ⟨rfl, HS.out.2.2⟩

end Go.Proofs.YtnjgdfmldjgloaaGreat

/- A cut of package cuts as it lies in memory. -/
namespace Go.Proofs.YtnjgdfmldjgloaaGreat
open Go.RowKit
open Pl
namespace Cu

/-- The values of a cut: where it lies, its rows. -/
structure CB where
  g : Nat
  hv : Value
  sv : Value
  uv : Value
  ls : List Value
def iC (us : List Int) : List Value := us.map (Value.int .i64)
def sC (bs : List Bd) : List Value := bs.flatMap fun b => [.int .i64 (b.h : Int), .int .i64 b.a]
theorem iC_len (us : List Int) : (iC us).length = us.length := by simp [iC]
theorem iC_set (us : List Int) (k : Nat) (u : Int) : (iC us).set k (.int .i64 u) = iC (us.set k u) := by unfold iC; rw [List.map_set]
theorem iC_app (a b : List Int) : iC (a ++ b) = iC a ++ iC b := by simp [iC]
theorem iC_one (a : List Int) : ∀ u ∈ iC a, u.oneCell' = true := by
  intro u hu
  obtain ⟨x, _, rfl⟩ := List.mem_map.1 hu
  rfl
theorem sC_len (bs : List Bd) : (sC bs).length = bs.length * 2 := flat_len (f := fun b : Bd => [Value.int .i64 (b.h : Int), Value.int .i64 b.a]) (z := 2) (fun _ => rfl) bs
theorem sC_app (a b : List Bd) : sC (a ++ b) = sC a ++ sC b := by simp [sC]

theorem own_cells {w : World} {B e z n k : Nat} {v : Value} {xs : List Value} (h : w.ownsRow B e z v n xs) (hk : v.ownBlock = some k) : ∃ cur, Blk w k cur e := by
  rcases h.2 with ⟨h1, _⟩ | ⟨g, cap, cur, rfl, _, hg, _⟩
  · rw [h1] at hk; simp [Value.ownBlock] at hk
  · simp [Value.ownBlock] at hk
    subst hk
    exact ⟨cur, hg⟩
theorem blk_tag {w : World} {g : Nat} {C D : Array Value} {t u : TypeId} (h : Blk w g C t) (k : Blk w g D u) : t = u := by
  unfold Blk at h k
  rw [h] at k
  simp at k
  exact k.2
theorem own_tag {w : World} {B z n k : Nat} {v : Value} {xs : List Value} {e t : TypeId} {C : Array Value} (h : w.ownsRow B e z v n xs) (hk : v.ownBlock = some k) (hb : Blk w k C t) : e = t := by
  obtain ⟨cur, hc⟩ := own_cells h hk
  exact blk_tag hc hb
theorem own_far {w : World} {B B' z z' n n' : Nat} {v v' : Value} {xs xs' : List Value} {e e' : TypeId} (h : w.ownsRow B e z v n xs) (h' : w.ownsRow B' e' z' v' n' xs') (he : e ≠ e') (k : Nat) (hk : v.ownBlock = some k) : v'.ownBlock ≠ some k := by
  intro hk'
  obtain ⟨cur, hc⟩ := own_cells h' hk'
  exact he (own_tag h hk hc)
theorem own_wf {w : World} {B e z n : Nat} {v : Value} {xs : List Value} (h : w.ownsRow B e z v n xs) : ∃ y c, v = .slice y n c := row_shape h

/-- The levels. -/
def LvAt (w : World) (ls : List Value) (xs : List (List Int)) : Prop :=
  ls.length = xs.length ∧ (∀ (i : Nat) (v : Value) (us : List Int), ls[i]? = some v → xs[i]? = some us → w.ownsRow 0 3 1 v us.length (iC us)) ∧
  ∀ (i j : Nat) (v v' : Value) (k : Nat), ls[i]? = some v → ls[j]? = some v' → v.ownBlock = some k → v'.ownBlock = some k → i = j
/-- A cut whose levels are xs. -/
structure RawAt (w : World) (b : CB) (c : Ct) (xs : List (List Int)) : Prop where
  blk : Blk w b.g #[b.hv, .string c.fr, .int .i64 c.u, b.sv, b.uv] 95
  hosts : w.ownsRow 0 9 1 b.hv c.hs.length (tC c.hs)
  held : w.ownsRow 0 98 2 b.sv c.bs.length (sC c.bs)
  til : w.ownsRow 0 112 1 b.uv b.ls.length b.ls
  lv : LvAt w b.ls xs
/-- What a cut may hold. -/
structure OkC (c : Ct) : Prop where
  nm : OkK c.n 0
  fr : c.fr.size ≤ 255
  hlen : c.hs.length ≤ 8
  hnm : ∀ h ∈ c.hs, h.size ≤ 255
  len : c.bs.length ≤ 256
  at' : ∀ x ∈ c.bs, x.h < c.hs.length
structure CutAt (w : World) (b : CB) (c : Ct) : Prop where
  raw : RawAt w b c (lvls (c.bs.map Bd.u))
  ok : OkC c
/-- The blocks of a cut that are written. -/
def wfoot (b : CB) (k : Nat) : Prop := k = b.g ∨ b.sv.ownBlock = some k ∨ b.uv.ownBlock = some k ∨ ∃ v ∈ b.ls, v.ownBlock = some k
def foot (b : CB) (k : Nat) : Prop := wfoot b k ∨ b.hv.ownBlock = some k
theorem LvAt.at {w : World} {ls : List Value} {xs : List (List Int)} (h : LvAt w ls xs) {i : Nat} {us : List Int} (hi : xs[i]? = some us) : ∃ v, ls[i]? = some v ∧ w.ownsRow 0 3 1 v us.length (iC us) := by
  obtain ⟨hi', e⟩ := List.getElem?_eq_some_iff.1 hi
  have hl : i < ls.length := by rw [h.1]; exact hi'
  exact ⟨ls[i], List.getElem?_eq_getElem hl, h.2.1 i _ us (List.getElem?_eq_getElem hl) hi⟩
theorem LvAt.mem {w : World} {ls : List Value} {xs : List (List Int)} (h : LvAt w ls xs) {v : Value} (hv : v ∈ ls) : ∃ us : List Int, w.ownsRow 0 3 1 v us.length (iC us) := by
  obtain ⟨i, hi, rfl⟩ := List.getElem_of_mem hv
  have hl : i < xs.length := by rw [← h.1]; exact hi
  exact ⟨xs[i], h.2.1 i _ _ (List.getElem?_eq_getElem hi) (List.getElem?_eq_getElem hl)⟩
theorem LvAt.turn {S : Nat → Prop} {w w' : World} {ls : List Value} {xs : List (List Int)} (h : LvAt w ls xs) (ht : Turn S w w') (hs : ∀ v ∈ ls, ∀ k, v.ownBlock = some k → ¬ S k) : LvAt w' ls xs :=
  ⟨h.1, fun i v us h1 h2 => ht.row (h.2.1 i v us h1 h2) (fun k hk => hs v (List.mem_of_getElem? h1) k hk), h.2.2⟩
theorem RawAt.turn {S : Nat → Prop} {w w' : World} {b : CB} {c : Ct} {xs : List (List Int)} (h : RawAt w b c xs) (ht : Turn S w w') (hs : ∀ k, foot b k → ¬ S k) : RawAt w' b c xs :=
  ⟨ht.blk h.blk (hs _ (.inl (.inl rfl))), ht.row h.hosts (fun k hk => hs k (.inr hk)), ht.row h.held (fun k hk => hs k (.inl (.inr (.inl hk)))), ht.row h.til (fun k hk => hs k (.inl (.inr (.inr (.inl hk))))), h.lv.turn ht (fun v hv k hk => hs k (.inl (.inr (.inr (.inr ⟨v, hv, hk⟩)))))⟩
theorem RawAt.below {w w' : World} {b : CB} {c : Ct} {xs : List (List Int)} (h : RawAt w b c xs) (hb : Below w.heap.size w w') : RawAt w' b c xs := h.turn (Turn.of_below (S := fun _ => False) hb) (fun _ _ => id)
theorem RawAt.lt {w : World} {b : CB} {c : Ct} {xs : List (List Int)} (h : RawAt w b c xs) : ∀ k, foot b k → k < w.heap.size := by
  rintro k ((rfl | hk | hk | ⟨v, hv, hk⟩) | hk)
  · exact h.blk.lt
  · exact (h.held.lt k hk).2
  · exact (h.til.lt k hk).2
  · obtain ⟨us, ho⟩ := h.lv.mem hv
    exact (ho.lt k hk).2
  · exact (h.hosts.lt k hk).2
/-- Seen from below a bound. -/
theorem RawAt.under {n : Nat} {w w' : World} {b : CB} {c : Ct} {xs : List (List Int)} (h : RawAt w b c xs) (hf : ∀ k, foot b k → k < n) (hb : Below n w w') : RawAt w' b c xs := by
  have hlt := h.lt
  have hblk : ∀ k, foot b k → w'.heap[k]? = w.heap[k]? := fun k hk => hb.block k (hf k hk)
  have hrow : ∀ {e z m : Nat} {v : Value} {ys : List Value}, w.ownsRow 0 e z v m ys → (∀ k, v.ownBlock = some k → foot b k) → w'.ownsRow 0 e z v m ys := by
    intro e z m v ys ho hs
    refine ⟨ho.1, ?_⟩
    rcases ho.2 with h0 | ⟨g, cap, cur, rfl, hb, hg, rest⟩
    · exact .inl h0
    · exact .inr ⟨g, cap, cur, rfl, hb, by rw [hblk g (hs g rfl)]; exact hg, rest⟩
  refine ⟨?_, hrow h.hosts (fun k hk => .inr hk), hrow h.held (fun k hk => .inl (.inr (.inl hk))), hrow h.til (fun k hk => .inl (.inr (.inr (.inl hk)))), h.lv.1, fun i v us h1 h2 => hrow (h.lv.2.1 i v us h1 h2) (fun k hk => .inl (.inr (.inr (.inr ⟨v, List.mem_of_getElem? h1, hk⟩)))), h.lv.2.2⟩
  have := h.blk
  unfold Blk at this ⊢
  rw [hblk _ (.inl (.inl rfl))]
  exact this
/-- A block of another type is none of a cut's that are written. -/
theorem RawAt.apart {w : World} {b : CB} {c : Ct} {xs : List (List Int)} (h : RawAt w b c xs) {k : Nat} {C : Array Value} {t : TypeId} (hb : Blk w k C t) (h1 : t ≠ 95) (h2 : t ≠ 98) (h3 : t ≠ 112) (h4 : t ≠ 3) : ¬ wfoot b k := by
  rintro (rfl | hk | hk | ⟨v, hv, hk⟩)
  · exact h1 (blk_tag hb h.blk)
  · exact h2 (own_tag h.held hk hb).symm
  · exact h3 (own_tag h.til hk hb).symm
  · obtain ⟨us, ho⟩ := h.lv.mem hv
    exact h4 (own_tag ho hk hb).symm
theorem RawAt.row_apart {w : World} {b : CB} {c : Ct} {xs : List (List Int)} (h : RawAt w b c xs) {B z n : Nat} {v : Value} {ys : List Value} {e : TypeId} (ho : w.ownsRow B e z v n ys) (h1 : e ≠ 95) (h2 : e ≠ 98) (h3 : e ≠ 112) (h4 : e ≠ 3) (k : Nat) (hk : v.ownBlock = some k) : ¬ wfoot b k := by
  obtain ⟨cur, hc⟩ := own_cells ho hk
  exact h.apart hc h1 h2 h3 h4
theorem CutAt.below {w w' : World} {b : CB} {c : Ct} (h : CutAt w b c) (hb : Below w.heap.size w w') : CutAt w' b c := ⟨h.raw.below hb, h.ok⟩
theorem CutAt.under {n : Nat} {w w' : World} {b : CB} {c : Ct} (h : CutAt w b c) (hf : ∀ k, foot b k → k < n) (hb : Below n w w') : CutAt w' b c := ⟨h.raw.under hf hb, h.ok⟩
/-- A call that writes none of the cut's. -/
theorem RawAt.past {S : Nat → Prop} {w w' : World} {b : CB} {c : Ct} {xs : List (List Int)} (h : RawAt w b c xs) (ht : Turn S w w') (hs : ∀ k, S k → w.heap.size ≤ k ∨ ¬ foot b k) : RawAt w' b c xs :=
  h.turn ht (fun k hf hS => by have := h.lt k hf; exact (hs k hS).elim (fun h1 => by omega) (fun h1 => h1 hf))

end Cu
end Go.Proofs.YtnjgdfmldjgloaaGreat

/- Structs as a whole out of their blocks and into them. -/
namespace Go.Proofs.YtnjgdfmldjgloaaGreat
open Go.RowKit
open Pl

def structB (T : TypeId) : Prop := ∃ fs, Tryz.prog.underlying T = some (.struct fs)
theorem load_s {w : World} {g : Nat} {C : Array Value} {t : TypeId} (T : TypeId) (hg : Blk w g C t) (hu : structB T) (hs : (Tryz.prog.info? T).map (·.size) = some C.size) : (loadVar T ⟨g, 0, none⟩).run Tryz.prog w = .ok (.agg C) w := by
  obtain ⟨fs, hq⟩ := hu
  exact run_loadVar_row _ _ t T C (0, 0) _ hg hq rfl hs
theorem store_s {w : World} {g : Nat} {Z C : Array Value} {t : TypeId} (T : TypeId) (hg : Blk w g Z t) (hs : (Tryz.prog.info? T).map (·.size) = some C.size) (hZ : Z.size = C.size) (h1 : C.all (·.oneCell') = true) :
    ∃ w', (storeVar T ⟨g, 0, none⟩ (.agg C)).run Tryz.prog w = .ok () w' ∧ Blk w' g C t ∧ Turn (fun k => k = g) w w' ∧ w'.heap.size = w.heap.size ∧ w'.drawn = w.drawn :=
  ⟨_, run_storeVar_row _ _ t T Z C hg hs hZ h1, setRow_heap _ _ Z _ t (0, 0) hg, Turn.of_grown (row := some g) ⟨rfl, rfl, rfl, by simp, fun k _ hne => setRow_other _ _ _ _ (fun e => hne (by rw [e]))⟩ (fun k e => (Option.some.inj e).symm), by simp, rfl⟩
/-- A whole struct out of its block. -/
theorem wpList_loadS (w : World) {ops : Array Oper} {rest : List Oper} {o : Oper} {a : Act} {Q : Exit → Act → World → Prop} (hgd : o.guard = none) (x : Operand) (T : TypeId) (ho : o.op = .load T x) (g : Nat) (C : Array Value) (t : TypeId)
    (hx : a.eval x = .pointer (some ⟨g, 0, none⟩)) (hg : Blk w g C t) (hu : structB T) (hs : (Tryz.prog.info? T).map (·.size) = some C.size)
    (h : wpList Tryz.prog ops Q rest (a.put o.dst (.agg C)) w) : wpList Tryz.prog ops Q (o :: rest) a w := by
  refine wpList_plain hgd fun K hK => ?_
  have hr : (Instr.loadAt T (.pointer (some ⟨g, 0, none⟩))).run Tryz.prog w = .ok (.agg C) w := by
    simp only [Instr.loadAt, Instr.sureAddr, Sem.run_bind, Sem.run_pure, Result.andThen]
    exact load_s T hg hu hs
  unfold Oper.wp execOp
  simp only [ho, hx, Sem.run_bind, hr, Result.andThen_ok, Sem.run_pure]
  exact hK _ _ h
/-- A whole struct into its block. -/
theorem wpList_storeS (w : World) {ops : Array Oper} {rest : List Oper} {o : Oper} {a : Act} {Q : Exit → Act → World → Prop} (hgd : o.guard = none) (x y : Operand) (T : TypeId) (ho : o.op = .store T x y) (g : Nat) (Z C : Array Value) (t : TypeId)
    (hx : a.eval x = .pointer (some ⟨g, 0, none⟩)) (hy : a.eval y = .agg C) (hg : Blk w g Z t) (hs : (Tryz.prog.info? T).map (·.size) = some C.size) (hZ : Z.size = C.size) (h1 : C.all (·.oneCell') = true)
    (h : ∀ w', Blk w' g C t → Turn (fun k => k = g) w w' → w'.heap.size = w.heap.size → w'.drawn = w.drawn → wpList Tryz.prog ops Q rest (a.put o.dst undef) w') : wpList Tryz.prog ops Q (o :: rest) a w := by
  refine wpList_plain hgd fun K hK => ?_
  obtain ⟨w', hrun, hb, ht, hz, hd⟩ := store_s T hg hs hZ h1
  have hr : (Instr.storeAt T (.pointer (some ⟨g, 0, none⟩)) (.agg C)).run Tryz.prog w = .ok () w' := by
    simp only [Instr.storeAt, Instr.sureAddr, Sem.run_bind, Sem.run_pure, Result.andThen]
    exact hrun
  unfold Oper.wp execOp
  simp only [ho, hx, hy, Sem.run_bind, hr, Result.andThen_ok, Sem.run_pure]
  exact hK _ _ (h _ hb ht hz hd)
/-- The same in a region that draws its order. -/
theorem step_storeS (w : World) {ops : Array Oper} {o : Oper} {a : Act} {K : Act → World → Prop} {Q : Exit → Act → World → Prop} {E : Prop} (hgd : o.guard = none) (x y : Operand) (T : TypeId) (ho : o.op = .store T x y) (g : Nat) (Z C : Array Value) (t : TypeId)
    (hx : a.eval x = .pointer (some ⟨g, 0, none⟩)) (hy : a.eval y = .agg C) (hg : Blk w g Z t) (hs : (Tryz.prog.info? T).map (·.size) = some C.size) (hZ : Z.size = C.size) (h1 : C.all (·.oneCell') = true)
    (h : ∀ w', Blk w' g C t → Turn (fun k => k = g) w w' → w'.heap.size = w.heap.size → w'.drawn = w.drawn → K (a.put o.dst undef) w') : if Region.wanted o (yielded ops a.tmps) = true then Oper.wp Tryz.prog o a w K Q else E := by
  have hw : Region.wanted o (yielded ops a.tmps) = true := by simp [Region.wanted, hgd]
  rw [if_pos hw]
  obtain ⟨w', hrun, hb, ht, hz, hd⟩ := store_s T hg hs hZ h1
  have hr : (Instr.storeAt T (.pointer (some ⟨g, 0, none⟩)) (.agg C)).run Tryz.prog w = .ok () w' := by
    simp only [Instr.storeAt, Instr.sureAddr, Sem.run_bind, Sem.run_pure, Result.andThen]
    exact hrun
  unfold Oper.wp execOp
  simp only [ho, hx, hy, Sem.run_bind, hr, Result.andThen_ok, Sem.run_pure]
  exact h _ hb ht hz hd
/-- What a function hands back out of its result's block. -/
theorem ret_s {fn : Func} {p : Tmp} {T : TypeId} (hf : fn.results = #[.cell p T]) {tmps : Array Value} {w : World} {g : Nat} {C : Array Value} {t : TypeId} (hp : tmps.getD p undef = .pointer (some ⟨g, 0, none⟩)) (hg : Blk w g C t) (hu : structB T) (hs : (Tryz.prog.info? T).map (·.size) = some C.size) :
    (results fn tmps).run Tryz.prog w = .ok (.agg C) w := by
  have hl := load_s T hg hu hs
  rw [results_cell hf, hp]
  simp only [asAddr, Sem.run_pure, Result.andThen]
  exact hl
theorem ret_s1 {fn : Func} {p q : Tmp} {T : TypeId} (hf : fn.results = #[.cell p T, .tmp q]) {tmps : Array Value} {w : World} {g : Nat} {C : Array Value} {t : TypeId} {v : Value} (hp : tmps.getD p undef = .pointer (some ⟨g, 0, none⟩)) (hq : tmps.getD q undef = v) (hg : Blk w g C t) (hu : structB T) (hs : (Tryz.prog.info? T).map (·.size) = some C.size) :
    (results fn tmps).run Tryz.prog w = .ok (.tuple #[.agg C, v]) w := by
  have hl := load_s T hg hu hs
  have ha : (asAddr (tmps.getD p undef)).run Tryz.prog w = .ok ⟨g, 0, none⟩ w := by rw [hp]; simp only [asAddr, Sem.run_pure]
  rw [Array.getD_eq_getD_getElem?] at ha hq
  simp only [results, hf]
  simp [Sem.run_bind, Result.andThen]
  rw [ha]
  simp only
  rw [hl, hq]
theorem ret_s2 {fn : Func} {p q r : Tmp} {T : TypeId} (hf : fn.results = #[.cell p T, .tmp q, .tmp r]) {tmps : Array Value} {w : World} {g : Nat} {C : Array Value} {t : TypeId} {v u : Value} (hp : tmps.getD p undef = .pointer (some ⟨g, 0, none⟩)) (hq : tmps.getD q undef = v) (hr : tmps.getD r undef = u) (hg : Blk w g C t) (hu : structB T) (hs : (Tryz.prog.info? T).map (·.size) = some C.size) :
    (results fn tmps).run Tryz.prog w = .ok (.tuple #[.agg C, v, u]) w := by
  have hl := load_s T hg hu hs
  have ha : (asAddr (tmps.getD p undef)).run Tryz.prog w = .ok ⟨g, 0, none⟩ w := by rw [hp]; simp only [asAddr, Sem.run_pure]
  rw [Array.getD_eq_getD_getElem?] at ha hq hr
  simp only [results, hf]
  simp [Sem.run_bind, Result.andThen]
  rw [ha]
  simp only
  rw [hl, hq, hr]
theorem Turn.one_below {w a b : World} {g : Nat} (h : Turn (fun k => k = g) a b) (hb : Below w.heap.size w a) (hg : w.heap.size ≤ g) : Below w.heap.size w b := Turn.below hb h hb.size (fun i e => by rw [e]; exact hg)

end Go.Proofs.YtnjgdfmldjgloaaGreat

/- s[:k] and s[k:] of a row of the call's own, as rows: the result a letter. -/
namespace Go.Proofs.YtnjgdfmldjgloaaGreat
open Go.RowKit
open Pl

theorem elem_of {t e : TypeId} (h : Tryz.prog.underlying t = some (.slice e)) : Tryz.prog.underlying t = some (.slice (Tryz.prog.elem t)) := by
  rw [h]; simp [Program.elem, h]
theorem elem_is {t e : TypeId} (h : Tryz.prog.underlying t = some (.slice e)) : Tryz.prog.elem t = e := by simp [Program.elem, h]
theorem run_sliceTo {w : World} {t e : TypeId} {base size n k : Nat} {v : Value} {xs : List Value} (hu : Tryz.prog.underlying t = some (.slice e)) (hz : (sizeOf e).run Tryz.prog w = .ok size w) (hown : w.ownsRow base e size v n xs) (hk : k ≤ n) :
    ∃ v', (Instr.sliceAt t v none (some (.int .i64 (k : Int))) none).run Tryz.prog w = .ok v' w ∧ Row w v' k (xs.take (k * size)) := by
  rcases hown.2 with ⟨rfl, h0⟩ | ⟨g, cap, cur, rfl, hb, hg, hnc, hr⟩
  · have hk0 : k = 0 := by omega
    subst hk0
    refine ⟨.slice none 0 0, ?_, Row.nil _ _⟩
    rw [run_sliceAt_slice w t _ _ _ _ (elem_of hu), run_slice_h w t none 0 0 (elem_of hu) .i64 _ (by omega) (by omega), elem_is hu, hz]
    simp [Result.andThen, sliced]
  · refine ⟨.slice (some ⟨g, 0, none⟩) k cap, ?_, .inr ⟨g, 0, none, cap, rfl, fun _ => rfl, fun j u hj => ?_⟩⟩
    · rw [run_sliceAt_slice w t _ _ _ _ (elem_of hu), run_slice_h w t _ n cap (elem_of hu) .i64 _ (by omega) (by omega), elem_is hu, hz]
      simp [Result.andThen, sliced, Addr.add]
    · have h1 := (List.getElem?_eq_some_iff.1 hj).1
      rw [List.length_take] at h1
      have h2 : k * size ≤ n * size := Nat.mul_le_mul_right _ hk
      rw [Nat.zero_add, hown.cellAt j (by omega), ← hj, List.getElem?_take_of_lt (by omega)]
theorem run_sliceFrom {w : World} {t e : TypeId} {base size n k : Nat} {v : Value} {xs : List Value} (hu : Tryz.prog.underlying t = some (.slice e)) (hz : (sizeOf e).run Tryz.prog w = .ok size w) (hown : w.ownsRow base e size v n xs) (hk : k ≤ n) :
    ∃ v', (Instr.sliceAt t v (some (.int .i64 (k : Int))) none none).run Tryz.prog w = .ok v' w ∧ Row w v' (n - k) (xs.drop (k * size)) := by
  have hlen := hown.1
  rcases hown.2 with ⟨rfl, h0⟩ | ⟨g, cap, cur, rfl, hb, hg, hnc, hr⟩
  · have hk0 : k = 0 := by omega
    subst hk0
    subst h0
    refine ⟨.slice none 0 0, ?_, Row.nil _ _⟩
    rw [run_sliceAt_slice w t _ _ _ _ (elem_of hu), run_slice_l w t none 0 0 (elem_of hu) .i64 _ (by omega) (by omega), elem_is hu, hz]
    simp [Result.andThen, sliced]
  · refine ⟨.slice (if cap = k then some ⟨g, 0, none⟩ else some ⟨g, k * size, none⟩) (n - k) (cap - k), ?_, ?_⟩
    · rw [run_sliceAt_slice w t _ _ _ _ (elem_of hu), run_slice_l w t _ n cap (elem_of hu) .i64 _ (by omega) (by omega), elem_is hu, hz]
      simp [Result.andThen, sliced, Addr.add]
      split
      · rfl
      · split <;> simp_all
    · by_cases hc : cap = k
      · rw [if_pos hc]
        refine .inr ⟨g, 0, none, cap - k, rfl, fun _ => rfl, fun j u hj => ?_⟩
        have hnk : n = k := by omega
        rw [List.drop_of_length_le (by rw [hlen, hnk]; exact Nat.le_refl _)] at hj
        simp at hj
      · rw [if_neg hc]
        refine .inr ⟨g, k * size, none, cap - k, rfl, fun _ => rfl, fun j u hj => ?_⟩
        have h1 := (List.getElem?_eq_some_iff.1 hj).1
        rw [List.length_drop, hlen] at h1
        rw [hown.cellAt (k * size + j) (by omega), ← hj, List.getElem?_drop]
theorem wpList_sliceTo (w : World) {ops : Array Oper} {rest : List Oper} {o : Oper} {a : Act} {Q : Exit → Act → World → Prop} (hgd : o.guard = none) (s x : Operand) (t e : TypeId) (base size : Nat) (hu : Tryz.prog.underlying t = some (.slice e)) (hz : (sizeOf e).run Tryz.prog w = .ok size w)
    (ho : o.op = .slice t s none (some x) none) (v : Value) (n k : Nat) (xs : List Value) (hs : a.eval s = v) (hx : a.eval x = .int .i64 (k : Int)) (hown : w.ownsRow base e size v n xs) (hk : k ≤ n)
    (h : ∀ v', Row w v' k (xs.take (k * size)) → wpList Tryz.prog ops Q rest (a.put o.dst v') w) : wpList Tryz.prog ops Q (o :: rest) a w := by
  obtain ⟨v', hr, hrow⟩ := run_sliceTo hu hz hown hk
  refine wpList_plain hgd fun K hK => ?_
  unfold Oper.wp
  simp only [execOp, ho, hs, hx, Option.map, Sem.run_bind, hr, Result.andThen_ok, Sem.run_pure]
  exact hK _ _ (h v' hrow)
theorem wpList_sliceFrom (w : World) {ops : Array Oper} {rest : List Oper} {o : Oper} {a : Act} {Q : Exit → Act → World → Prop} (hgd : o.guard = none) (s x : Operand) (t e : TypeId) (base size : Nat) (hu : Tryz.prog.underlying t = some (.slice e)) (hz : (sizeOf e).run Tryz.prog w = .ok size w)
    (ho : o.op = .slice t s (some x) none none) (v : Value) (n k : Nat) (xs : List Value) (hs : a.eval s = v) (hx : a.eval x = .int .i64 (k : Int)) (hown : w.ownsRow base e size v n xs) (hk : k ≤ n)
    (h : ∀ v', Row w v' (n - k) (xs.drop (k * size)) → wpList Tryz.prog ops Q rest (a.put o.dst v') w) : wpList Tryz.prog ops Q (o :: rest) a w := by
  obtain ⟨v', hr, hrow⟩ := run_sliceFrom hu hz hown hk
  refine wpList_plain hgd fun K hK => ?_
  unfold Oper.wp
  simp only [execOp, ho, hs, hx, Option.map, Sem.run_bind, hr, Result.andThen_ok, Sem.run_pure]
  exact hK _ _ (h v' hrow)

end Go.Proofs.YtnjgdfmldjgloaaGreat

/- The small functions of package cuts: isLive, mayAddr, lasting, raise; slices.Max, slices.Index, slices.Contains. -/
namespace Go.Proofs.YtnjgdfmldjgloaaGreat
open Go.RowKit
open Pl
namespace Cu

theorem isLive_any (u now : Int) (w : World) :
    Calls Tryz.prog 53 #[.int .i64 u, .int .i64 now] w fun e w' => e = .returned (.bool (decide (now < u))) ∧ w' = w := by
  go_enter Tryz.func53, Tryz.ntmps53
  go_wp2
  go_ret
  exact ⟨rfl, rfl⟩
def wideB (a : Int) : Bool := decide (0 ≤ a) && decide (a ≤ 4294967295)
theorem mayAddr_any (a : Int) (w : World) :
    Calls Tryz.prog 52 #[.int .i64 a] w fun e w' => e = .returned (.bool (wideB a)) ∧ w' = w := by
  unfold wideB
  by_cases h : 0 ≤ a
  · have d0 : decide (0 ≤ a) = true := by simpa using h
    go_enter Tryz.func52, Tryz.ntmps52
    go_wp2
    go_ret
    exact ⟨by rw [d0]; rfl, rfl⟩
  · have d0 : decide (0 ≤ a) = false := by simpa using h
    go_enter Tryz.func52, Tryz.ntmps52
    go_wp2
    go_ret
    exact ⟨rfl, rfl⟩
theorem lasting_any (t : Int) (w : World) :
    Calls Tryz.prog 75 #[.int .i64 t] w fun e w' => e = .returned (.int .i64 (lastI t)) ∧ w' = w := by
  unfold lastI
  go_enter Tryz.func75, Tryz.ntmps75
  go_wp2
  all_goals go_ret
  all_goals exact ⟨ret_int (by omega), rfl⟩

theorem infoI : (Tryz.prog.info? 3).map (fun i => (i.zero, i.size, i.bytes)) = some (some (.int .i64 0), 1, 8) := by kernel_rfl
set_option maxRecDepth 20000 in
theorem raise_any (v : Value) (us : List Int) (k : Nat) (u : Int) (w : World) (ho : w.ownsRow 0 3 1 v us.length (iC us)) (hk : k ≤ us.length) (hl : us.length ≤ 1000) :
    Calls Tryz.prog 95 #[v, .int .i64 (k : Int), .int .i64 u] w fun e w' => ∃ v', e = .returned v' ∧ w'.ownsRow 0 3 1 v' (raiseL us k u).length (iC (raiseL us k u)) ∧ Turn (fun j => v.ownBlock = some j) w w' ∧ (∀ j, v'.ownBlock = some j → v.ownBlock = some j ∨ w.heap.size ≤ j) := by
  obtain ⟨i0, hi, hz0, hz1, hz2⟩ := info_parts infoI
  by_cases hkl : k = us.length
  · have e0 : raiseL us k u = us ++ [u] := by unfold raiseL; rw [if_pos hkl]
    rw [e0]
    clear e0
    subst hkl
    have HO : Hid (w.ownsRow 0 3 1 v us.length (iC us)) := ho
    obtain ⟨y, c, rfl⟩ := row_shape ho
    clear ho
    go_enter Tryz.func95, Tryz.ntmps95
    go_wp2_with (at_builtin; refine wpList_appG _ rfl (.tmp 11) (.tmp 13) 112 3 i0 _ 1 8 Tryz.underlying112 hi hz0 hz1 hz2 rfl (by decide) rfl 0 _ us.length (iC us) rfl (HO.out.alloc _) (.slice (some ⟨w.heap.size, 0, none⟩) 1 1) 1 [.int .i64 u] rfl (Row.of_blk (Blk.new w #[.int .i64 u] 3) rfl 1 1) rfl (by simp [Value.oneCell']) (by omega) (by unfold maxLen; omega) (Nat.zero_le _) ?_; intro v2 w2 h1 h3 h4)
    go_ret
    refine ⟨_, rfl, ?_, (Turn.of_below (lay (Below.refl _ _) _)).trans (Turn.of_grown (S := fun j => (Value.slice y us.length c).ownBlock = some j) h3 (fun k e => e)) (fun i e => .inl e), fun j hj => (h4 j hj).imp id (fun h => by rw [World.size_alloc] at h; omega)⟩
    rw [List.length_append, iC_app]
    exact h1
  · have hlt : k < us.length := by omega
    have e0 : raiseL us k u = us.set k (max us[k] u) := by
      unfold raiseL; rw [if_neg hkl, List.getD_eq_getElem?_getD, List.getElem?_eq_getElem hlt]; rfl
    rw [e0, List.length_set, ← iC_set]
    clear e0
    obtain ⟨m, hm⟩ : ∃ m, m = max us[k] u := ⟨_, rfl⟩
    have HM : Hid (m = max us[k] u) := hm
    rw [← hm]
    clear hm
    obtain ⟨g, cap, rfl, _, _⟩ := ho.form (by omega)
    have hL := (lies_own ho).1
    have c1 : w.cell? ⟨g, k, none⟩ = some (.int .i64 us[k]) := by
      have := hL k (.int .i64 us[k]) (by unfold iC; rw [List.getElem?_map, List.getElem?_eq_getElem hlt]; rfl)
      simpa using this
    have hst := ho.stored k (.int .i64 m)
    have hf := ho.frozenAt k
    have hne : ((k : Int) == (us.length : Int)) = false := by rw [beq_eq_false_iff_ne]; omega
    have hcap := (lies_own ho).2
    have HN : Hid (k < us.length) := hlt
    have HS : Hid (Turn (fun j => (Value.slice (some ⟨g, 0, none⟩) us.length cap).ownBlock = some j) w (w.setCell ⟨g, k, none⟩ (.int .i64 m))) := Turn.of_set (S := fun j => (Value.slice (some ⟨g, 0, none⟩) us.length cap).ownBlock = some j) w (p := ⟨g, k, none⟩) rfl _
    go_enter Tryz.func95, Tryz.ntmps95
    go_wp2
    · obtain rfl : m = u := by have := HM.out; omega
      go_ret
      exact ⟨_, rfl, hst.1, HS.out, fun j hj => .inl hj⟩
    · obtain rfl : m = us[k] := by have := HM.out; omega
      go_ret
      exact ⟨_, rfl, hst.1, HS.out, fun j hj => .inl hj⟩

/-- slices.Max of a row that lies anywhere. -/
theorem max_any (g o n cap : Nat) (us : List Int) (w : World) (hl : us.length = n) (h0 : 0 < n) (hn : n ≤ 1000) (hc : ∀ j (hj : j < us.length), w.cell? ⟨g, o + j, none⟩ = some (.int .i64 us[j])) :
    Calls Tryz.prog 105 #[.slice (some ⟨g, o, none⟩) n cap] w fun e w' => e = .returned (.int .i64 (maxL us)) ∧ w' = w := by
  have hb0 := hc 0 (by omega)
  rw [Nat.add_zero] at hb0
  have HL : Hid (us.length = n) := hl
  have hln : decide ((n : Int) < 1) = false := by simp; omega
  have HC : Hid (∀ j (hj : j < us.length), w.cell? ⟨g, o + j, none⟩ = some (.int .i64 us[j])) := hc
  have HST : Hid (∃ a : Int, us[0]'(by omega) = a ∧ a = maxL (us.take 1)) := ⟨_, rfl, by cases us with | nil => simp at hl; omega | cons x xs => rfl⟩
  have HE : Hid (∀ j, j = n → maxL (us.take j) = maxL us) := fun j hj => by rw [hj, ← hl, List.take_length]
  have HT : Hid (∀ j (hj : j < us.length), 0 < j → maxL (us.take (j + 1)) = max (maxL (us.take j)) us[j]) := fun j hj h0 => maxL_take_succ h0 hj
  obtain ⟨a0, ha0, ham⟩ := HST.out
  rw [ha0] at hb0
  have HA : Hid (a0 = maxL (us.take 1)) := ham
  clear hl hc HST ha0 ham
  go_enter Tryz.func105, Tryz.ntmps105
  go_wp2
  go_loopw [3, 4] (fun m k wr => wr = w ∧ ∃ (j : Nat) (mm : Int), 1 ≤ j ∧ j ≤ n ∧ k = .int .i64 (j : Int) ∧ m = .int .i64 mm ∧ Hid (mm = maxL (us.take j))) (fun _ k _ => n - (intOf k).toNat)
  case atStart => exact ⟨rfl, 1, a0, Nat.le_refl _, by omega, rfl, rfl, HA⟩
  case round =>
    obtain ⟨hw, j, mm, hj1, hj2, rfl, rfl, HM⟩ := hrel
    subst hw
    by_cases hjn : j < n
    · have hjn' : (j : Int) < (n : Int) := by omega
      have hju : j < us.length := by rw [HL.out]; exact hjn
      have hcj := HC.out j hju
      have HTj : Hid (maxL (us.take (j + 1)) = max (maxL (us.take j)) us[j]) := HT.out j hju (by omega)
      obtain ⟨x, hx⟩ : ∃ x, x = us[j] := ⟨_, rfl⟩
      have HX : Hid (x = us[j]) := hx
      rw [← hx] at hcj
      clear hx hb0
      go_wp2
      go_roundw
      case rel => exact ⟨trivial, j + 1, _, by omega, by omega, by go_num, rfl, by have h1 := HTj.out; have h2 := HX.out; have h3 := HM.out; unfold Hid; omega⟩
      case measure => simp [intOf]; omega
    · have hjn' : decide (j < n) = false := by simpa using hjn
      have HF : Hid (mm = maxL us) := by unfold Hid; rw [HM.out]; exact HE.out j (by omega)
      go_wp2
      go_ret
      exact ⟨ret_int HF.out, rfl⟩

/-- The first place of a text. -/
def posL (hs : List ByteArray) (s : ByteArray) : Int := match hs.findIdx? (fun h => decide (h = s)) with | some k => (k : Int) | none => -1
theorem posL_at {hs : List ByteArray} {s : ByteArray} {k : Nat} (hk : k < hs.length) (h1 : ∀ i (hi : i < hs.length), i < k → hs[i] ≠ s) (h2 : hs[k] = s) : posL hs s = k := by
  have : hs.findIdx? (fun h => decide (h = s)) = some k := List.findIdx?_eq_some_iff_getElem.2 ⟨hk, by simpa using h2, fun j hj => by simpa using h1 j (by omega) hj⟩
  unfold posL; rw [this]
theorem posL_none {hs : List ByteArray} {s : ByteArray} (h : ∀ x ∈ hs, x ≠ s) : posL hs s = -1 := by
  have : hs.findIdx? (fun h => decide (h = s)) = none := List.findIdx?_eq_none_iff.2 (fun x hx => by simpa using h x hx)
  unfold posL; rw [this]
theorem posL_mem {hs : List ByteArray} {s : ByteArray} : 0 ≤ posL hs s ↔ s ∈ hs := by
  unfold posL
  cases h : hs.findIdx? (fun h => decide (h = s)) with
  | none =>
    have := List.findIdx?_eq_none_iff.1 h
    simp only
    constructor
    · intro h; omega
    · intro hm; have := this s hm; simp at this
  | some k =>
    obtain ⟨hk, he, _⟩ := List.findIdx?_eq_some_iff_getElem.1 h
    simp only [decide_eq_true_eq] at he
    exact ⟨fun _ => by rw [← he]; exact List.getElem_mem _, fun _ => by simp only; omega⟩
theorem posL_lt {hs : List ByteArray} {s : ByteArray} (h : 0 ≤ posL hs s) : ∃ (k : Nat) (hk : k < hs.length), posL hs s = k ∧ hs[k] = s := by
  unfold posL at h ⊢
  cases e : hs.findIdx? (fun h => decide (h = s)) with
  | none => rw [e] at h; simp only at h; omega
  | some k =>
    obtain ⟨hk, he, _⟩ := List.findIdx?_eq_some_iff_getElem.1 e
    simp only [decide_eq_true_eq] at he
    exact ⟨k, hk, rfl, he⟩
set_option maxRecDepth 20000 in
theorem index_any (v : Value) (hs : List ByteArray) (s : ByteArray) (w : World) (hr : Row w v hs.length (tC hs)) (hl : hs.length ≤ 1000) (P : Int) (hP : posL hs s = P) :
    Calls Tryz.prog 54 #[v, .string s] w fun e w' => e = .returned (.int .i64 P) ∧ w' = w := by
  obtain ⟨n, hn⟩ : ∃ n, n = hs.length := ⟨_, rfl⟩
  rw [← hn] at hr hl
  have HN : Hid (n = hs.length) := hn
  have HR : Hid (Row w v n (tC hs)) := hr
  have HP : Hid (posL hs s = P) := hP
  obtain ⟨x0, c0, rfl, _⟩ := hr.src
  clear hr hn hP
  go_enter Tryz.func54, Tryz.ntmps54
  go_wp2
  go_loopw [8] (fun k wr => wr = w ∧ ∃ j : Nat, j ≤ n ∧ k = .int .i64 (j : Int) ∧ Hid (∀ i (hi : i < hs.length), i < j → hs[i] ≠ s)) (fun k _ => n - (intOf k).toNat)
  case atStart => exact ⟨rfl, 0, Nat.zero_le _, rfl, fun i _ h => by omega⟩
  case round =>
    obtain ⟨hw, j, hj, rfl, HB⟩ := hrel
    subst hw
    by_cases hjn : j < n
    · have hjn' : (j : Int) < (n : Int) := by omega
      have hju : j < hs.length := by have := HN.out; omega
      obtain ⟨g, o, cap, hx, hc⟩ := row_at HR.out (by omega)
      simp only [Value.slice.injEq] at hx
      obtain ⟨rfl, -, rfl⟩ := hx
      have d0 := hc j _ (tC_at hju)
      obtain ⟨p, hp⟩ : ∃ p, p = hs[j] := ⟨_, rfl⟩
      have HQ : Hid (p = hs[j]) := hp
      rw [← hp] at d0
      clear hc hp
      by_cases e : s = p
      · have HF : Hid ((j : Int) = P) := by
          have h1 := posL_at hju HB.out (HQ.out.symm.trans e.symm)
          unfold Hid
          rw [← h1, HP.out]
        subst e
        go_wp2
        go_ret
        exact ⟨ret_int HF.out, rfl⟩
      · have hpq : (s.toList == p.toList) = false := by rw [str_eqd]; simpa using e
        have HB2 : Hid (∀ i (hi : i < hs.length), i < j + 1 → hs[i] ≠ s) := fun i hi hij => by
          by_cases h : i = j
          · subst h; rw [← HQ.out]; exact fun h => e h.symm
          · exact HB.out i hi (by omega)
        clear e
        go_wp2
        go_roundw
        case rel => exact ⟨trivial, j + 1, by omega, by go_num, HB2⟩
        case measure => simp [intOf]; omega
    · have hjn' : decide (j < n) = false := by simpa using hjn
      have HF : Hid ((-1 : Int) = P) := by
        unfold Hid
        rw [← HP.out, posL_none (fun x hx => ?_)]
        obtain ⟨i, hi, rfl⟩ := List.getElem_of_mem hx
        exact HB.out i hi (by have := HN.out; omega)
      go_wp2
      go_ret
      exact ⟨ret_int HF.out, rfl⟩
theorem contains_any (v : Value) (hs : List ByteArray) (s : ByteArray) (w : World) (hr : Row w v hs.length (tC hs)) (hl : hs.length ≤ 1000) (B : Bool) (hB : B = true ↔ s ∈ hs) :
    Calls Tryz.prog 33 #[v, .string s] w fun e w' => e = .returned (.bool B) ∧ w' = w := by
  obtain ⟨P, hP⟩ : ∃ P, posL hs s = P := ⟨_, rfl⟩
  have hx := index_any v hs s w hr hl P hP
  have HB : Hid (decide (0 ≤ P) = B) := by
    unfold Hid
    rw [Bool.eq_iff_iff, hB, ← hP, decide_eq_true_eq]
    exact posL_mem
  clear hP hr hB
  go_enter Tryz.func33, Tryz.ntmps33
  go_wp2_with (go_at_call 54; go_must (refine hx.mono ?_); rintro e w' ⟨rfl, hw⟩; obtain rfl := hw.symm)
  go_ret
  exact ⟨ret_bool HB.out, rfl⟩

end Cu
end Go.Proofs.YtnjgdfmldjgloaaGreat
