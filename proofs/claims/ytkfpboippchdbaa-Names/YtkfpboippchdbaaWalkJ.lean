/- What Text of the document's answers gives, for every string. -/
import Derived.Test.YtkfpboippchdbaaWalkI
namespace Go.Proofs.Ytkfpboippchdbaa
open Go.RowKit
open Pl

/-- The bytes of a label from its first one up to k. -/
def seg (l : List UInt8) (P k : Nat) : List UInt8 := (l.drop (P + 1)).take (k - (P + 1))
theorem seg_nil (l : List UInt8) (P : Nat) : seg l P (P + 1) = [] := by unfold seg; simp
theorem seg_snoc (l : List UInt8) (P k : Nat) (h : P + 1 ≤ k) (hk : k < l.length) : seg l P (k + 1) = seg l P k ++ [l[k]] := by
  unfold seg
  rw [show k + 1 - (P + 1) = (k - (P + 1)) + 1 from by omega, List.take_succ_eq_append_getElem (by simp; omega)]
  congr 2
  rw [List.getElem_drop]
  congr 1
  omega

theorem seg_esc (done l : List UInt8) (P k : Nat) (h : P + 1 ≤ k) (hk : k < l.length) : (done ++ (seg l P (k + 1)).flatMap esc).map bv = (done ++ (seg l P k).flatMap esc).map bv ++ (esc l[k]).map bv := by
  rw [seg_snoc l P k h hk, List.flatMap_append]; simp

theorem name_cnt0 {l : List UInt8} (h : isName l = true) : cnt l = 0 ↔ l.length = 1 := by
  constructor
  · intro hc
    rcases Nat.decEq l.length 1 with hne | he
    · exfalso
      obtain ⟨c, r, rfl, h0⟩ := name_long h hne
      obtain ⟨h255, hs⟩ := name_some h
      obtain ⟨h63, _, _⟩ := nmS_label hs h0
      have hn : nm (c :: r) = (nmS c.toNat r).map (· + 1) := by rw [nm_short h255, nmS, if_neg h0, if_neg (by omega)]
      unfold cnt at hc
      rw [hn] at hc
      cases hx : nmS c.toNat r with
      | none => unfold isName at h; rw [hn, hx] at h; simp at h
      | some k => rw [hx] at hc; simp at hc
    · exact he
  · intro hl; rw [name_root h hl]; decide

theorem refText_no (s : ByteArray) (w : World) (hs : s.size ≤ maxLen) (h : isName s.data.toList = false) :
    Calls Try.prog 10 #[.string s] w fun e w' => e = .returned (txV s.data.toList) ∧ Below w.heap.size w w' := by
  rw [show txV s.data.toList = .tuple #[.string ⟨#[]⟩, .int .i64 100] from by unfold txV; rw [h]; rfl]
  go_enter Try.func10, Try.ntmps10
  go_wp2_with (go_at_call 20; refine (places_any _ _ hs).mono ?_; rintro e w' ⟨v, rfl, hb, hp⟩)
  go_ret2
  exact ⟨rfl, hb⟩

theorem refText_root (s : ByteArray) (w : World) (hs : s.size ≤ maxLen) (h : isName s.data.toList = true) (h1 : s.data.toList.length = 1) :
    Calls Try.prog 10 #[.string s] w fun e w' => e = .returned (txV s.data.toList) ∧ Below w.heap.size w w' := by
  have HT : Hid (tx s.data.toList = [46]) := by unfold Hid tx; rw [if_pos h1]
  have hc := (name_cnt0 h).2 h1
  clear h1
  go_enter Try.func10, Try.ntmps10
  go_wp2_with (go_at_call 20; refine (places_any _ _ hs).mono ?_; rintro e w' ⟨v, rfl, hb, hp⟩; obtain ⟨g, cap, qs, rfl, hpl, hown⟩ := hp h; have hn : qs.length = 1 := (by rw [hpl.2.1, hc]); rw [hn]; clear hp hpl hown hn)
  go_ret2
  exact ⟨Eq.trans (by rw [HT.out]; rfl) (ret_text h), hb⟩

set_option maxRecDepth 20000 in
set_option maxHeartbeats 2000000 in
theorem refText_yes (s : ByteArray) (w : World) (h : isName s.data.toList = true) (h255 : s.size ≤ 255) (h1 : s.data.toList.length ≠ 1) :
    Calls Try.prog 10 #[.string s] w fun e w' => e = .returned (txV s.data.toList) ∧ Below w.heap.size w w' := by
  have hsl := data_len s
  have hs : s.size ≤ maxLen := by unfold maxLen; omega
  have hc0 : cnt s.data.toList ≠ 0 := fun e => h1 ((name_cnt0 h).1 e)
  have hcl := cnt_le s.data.toList
  go_enter Try.func10, Try.ntmps10
  go_wp2_with (go_at_call 20; refine (places_any _ _ hs).mono ?_; rintro e w1 ⟨v, rfl, hb1, hp⟩; obtain ⟨gp, cap, qs, rfl, hpl, hown⟩ := hp h; obtain ⟨n, hn⟩ : ∃ n, n = qs.length := ⟨_, rfl⟩; rw [← hn] at hown ⊢; have hn2 : n = cnt s.data.toList + 1 := hn.trans hpl.2.1; have HN : Hid (n = cnt s.data.toList + 1) := hn2; have HNQ : Hid (n = qs.length) := hn; have hn3 : n ≤ 256 := (by omega); have hn4 : 2 ≤ n := (by omega); have hn5 : ((n : Int) == 1) = false := (by simp; omega); have HPL : Hid (Places s.data.toList qs) := hpl; clear hp hpl hn hn2)
  have hpc : ∀ j, j < n → w1.cell? ⟨gp, j, none⟩ = some (.int .i64 (qs.getD j 0 : Nat)) := fun j hj => by
    rw [hown.cellAt j (by omega)]
    have hj' : j < qs.length := by rw [← HNQ.out]; exact hj
    simp [hj', iv]
  have hgl : gp < w1.heap.size := (hown.lt gp rfl).2
  have HST : Hid (TxAt s.data.toList (qs.getD 0 0) []) := txAt_first HPL.out.1 h (by rw [← HNQ.out]; omega)
  clear hown hc0 hcl
  go_loopw [6, 7] (fun v i wr => ∃ (k m : Nat) (done : List UInt8), k + 1 ≤ n ∧ i = .int .i64 k ∧ wr.ownsRow w.heap.size 5 1 v m (done.map bv) ∧ m ≤ 4 * qs.getD k 0 ∧ Hid (TxAt s.data.toList (qs.getD k 0) done) ∧ v.ownBlock ≠ some gp ∧ (∀ j, j < n → wr.cell? ⟨gp, j, none⟩ = some (.int .i64 (qs.getD j 0 : Nat))) ∧ gp < wr.heap.size ∧ Below w.heap.size w wr) (fun _ i _ => n - (intOf i).toNat)
  case atStart => exact ⟨0, 0, [], by omega, rfl, World.ownsRow_nil _ _ _ _, by omega, HST, by simp [Value.ownBlock], hpc, hgl, hb1⟩
  case round =>
    clear hpc hgl HST hb1
    obtain ⟨k, m, done, hk, rfl, hown, hm, hat, hne, hpc, hgl, hbel⟩ := hrel
    have hB : w.heap.size ≤ wr.heap.size := hbel.size
    by_cases hkn : k + 1 < n
    · have hkn2 : (k : Int) + 1 < (n : Int) := by omega
      have hst := HPL.out.1.2 k (by rw [← HNQ.out]; exact hkn)
      obtain ⟨P, hP⟩ : ∃ P, P = qs.getD k 0 := ⟨_, rfl⟩
      obtain ⟨Q, hQ⟩ : ∃ Q, Q = qs.getD (k + 1) 0 := ⟨_, rfl⟩
      have hPQ : P + 1 ≤ Q := by rw [hP, hQ, hst.2.2]; omega
      have hQl : Q < s.size := by rw [hQ, ← hsl]; exact place_lt HPL.out (by rw [← HNQ.out]; exact hkn)
      have hc1 := hpc k (by omega)
      have hc2 := hpc (k + 1) hkn
      have HE : Hid (TxAt s.data.toList Q (done ++ (seg s.data.toList P Q).flatMap esc ++ [46])) := by
        unfold Hid seg; rw [hP, hQ]; exact txAt_place HPL.out.1 (by rw [← HNQ.out]; exact hkn) hat.out
      rw [← hP] at hc1 hm
      rw [← hQ] at hc2
      have HPC : Hid (∀ j, j < n → wr.cell? ⟨gp, j, none⟩ = some (.int .i64 (qs.getD j 0 : Nat))) := hpc
      have HP : Hid (P = qs.getD k 0) := hP
      have HQ : Hid (Q = qs.getD (k + 1) 0) := hQ
      clear hst hP hQ hat hpc
      go_wp2
      go_loopw [6, 8] (fun v i wq => ∃ (j q : Nat), P + 1 ≤ j ∧ j ≤ Q ∧ i = .int .i64 j ∧ wq.ownsRow w.heap.size 5 1 v q ((done ++ (seg s.data.toList P j).flatMap esc).map bv) ∧ q + 4 ≤ 4 * j ∧ v.ownBlock ≠ some gp ∧ (∀ j, j < n → wq.cell? ⟨gp, j, none⟩ = some (.int .i64 (qs.getD j 0 : Nat))) ∧ gp < wq.heap.size ∧ Below w.heap.size w wq) (fun _ i _ => Q - (intOf i).toNat)
      case atStart => exact ⟨P + 1, m, Nat.le_refl _, hPQ, by go_num, by rw [seg_nil]; simpa using hown, by omega, hne, HPC.out, hgl, hbel⟩
      case round =>
        clear hown hm hne HPC hgl hbel hB hc1 hc2
        obtain ⟨j, q, hPj, hjQ, rfl, hownj, hq, hnej, hpcj, hglj, hbelj⟩ := hrel
        have hBj : w.heap.size ≤ wr.heap.size := hbelj.size
        have hc2 := hpcj (k + 1) hkn
        rw [← HQ.out] at hc2
        have HPJ : Hid (∀ j, j < n → wr.cell? ⟨gp, j, none⟩ = some (.int .i64 (qs.getD j 0 : Nat))) := hpcj
        clear hpcj
        by_cases hjl : j < Q
        · have hjs : j < s.size := by omega
          have hb8 := (s[j]).toNat_lt
          cases hst : standsB (s[j]).toNat with
          | true =>
            go_wp2_with (first | (go_at_call 21; refine (plain_any _ _ (by omega) (by omega)).mono ?_; rintro e w' ⟨rfl, hw⟩; obtain rfl := hw.symm) | (at_builtin; refine wpList_app rfl _ _ rfl _ _ rfl w.heap.size _ _ _ rfl hownj rfl (by simp) (by simp) (by simp; omega) hBj ?_; intro g2 cap2 w3 h1 h2 h3 h4))
            have HO : Hid (w3.ownsRow w.heap.size 5 1 (.slice (some ⟨g2, 0, none⟩) (q + 1) cap2) (q + 1) ((done ++ (seg s.data.toList P (j + 1)).flatMap esc).map bv)) := by
              unfold Hid; rw [seg_esc done s.data.toList P j hPj (by omega)]; rw [byte_at s j hjs, esc_yes hst]; exact h1
            go_roundw
            case rel => exact ⟨j + 1, _, by omega, by omega, by go_num, HO, by omega, ne_block h3 hnej hglj, fun i hi => h2.cell (HPJ.out i hi) (Ne.symm hnej), Nat.lt_of_lt_of_le hglj h2.size, hbelj.grown h2 hBj (fun k e => (hownj.lt k e).1)⟩
            case measure => simp [intOf]; omega
          | false =>
            go_wp2_with (first | (go_at_call 21; refine (plain_any _ _ (by omega) (by omega)).mono ?_; rintro e w' ⟨rfl, hw⟩; obtain rfl := hw.symm) | (at_builtin; refine wpList_app rfl _ _ rfl _ _ rfl w.heap.size _ _ _ rfl hownj rfl (by simp) (by simp) (by simp; omega) hBj ?_; intro g2 cap2 w3 h1 h2 h3 h4))
            have HO : Hid (w3.ownsRow w.heap.size 5 1 (.slice (some ⟨g2, 0, none⟩) (q + 4) cap2) (q + 4) ((done ++ (seg s.data.toList P (j + 1)).flatMap esc).map bv)) := by
              unfold Hid; rw [seg_esc done s.data.toList P j hPj (by omega)]; rw [byte_at s j hjs, esc_no hst]; exact h1
            go_roundw
            case rel => exact ⟨j + 1, _, by omega, by omega, by go_num, HO, by omega, ne_block h3 hnej hglj, fun i hi => h2.cell (HPJ.out i hi) (Ne.symm hnej), Nat.lt_of_lt_of_le hglj h2.size, hbelj.grown h2 hBj (fun k e => (hownj.lt k e).1)⟩
            case measure => simp [intOf]; omega
        · have hjq : j = Q := by omega
          have HJQ : Hid (j = Q) := hjq
          clear hjq
          go_wp2_with (at_builtin; refine wpList_app rfl _ _ rfl _ _ rfl w.heap.size _ _ _ rfl hownj rfl (by simp) (by simp) (by simp; omega) hBj ?_; intro g2 cap2 w3 h1 h2 h3 h4)
          have HO : Hid (w3.ownsRow w.heap.size 5 1 (.slice (some ⟨g2, 0, none⟩) (q + 1) cap2) (q + 1) ((done ++ (seg s.data.toList P Q).flatMap esc ++ [46]).map bv)) := by
            unfold Hid; rw [HJQ.out] at h1; rw [List.map_append]; exact h1
          go_roundw
          case rel => exact ⟨k + 1, q + 1, _, by omega, by go_num, HO, by rw [← HQ.out]; have := HJQ.out; omega, by rw [← HQ.out]; exact HE, ne_block h3 hnej hglj, fun i hi => h2.cell (HPJ.out i hi) (Ne.symm hnej), Nat.lt_of_lt_of_le hglj h2.size, hbelj.grown h2 hBj (fun k e => (hownj.lt k e).1)⟩
          case measure => simp [intOf]; omega
    · have hkc : k = cnt s.data.toList := by have := HN.out; omega
      have HD : Hid (txS 0 s.data.toList = done) := txAt_last HPL.out (by rw [← hkc]; exact hat.out)
      clear hat hkc hpc
      go_wp2_with (refine wpList_string _ rfl (.tmp 66) rfl _ _ _ done rfl hown ?_)
      go_ret2
      exact ⟨ret_done h h1 HD.out, hbel⟩

theorem refText_any (s : ByteArray) (w : World) (hs : s.size ≤ maxLen) :
    Calls Try.prog 10 #[.string s] w fun e w' => e = .returned (txV s.data.toList) ∧ Below w.heap.size w w' := by
  cases h : isName s.data.toList with
  | false => exact refText_no s w hs h
  | true =>
    by_cases h1 : s.data.toList.length = 1
    · exact refText_root s w hs h h1
    · exact refText_yes s w h (name_size h) h1

end Go.Proofs.Ytkfpboippchdbaa
