/- What the document's Fold gives, where the seat has no more of rel. -/
import Derived.Test.YtbldoplemfjcjaaFoA
namespace Go.Proofs.Ytbldoplemfjcjaa
open Go.RowKit
open Pl

/-- How many labels a name may have. -/
theorem labs_few {ls : List (List UInt8)} (h : GoodL ls) : 2 * ls.length + 1 ≤ (enc ls).length := by
  induction ls with
  | nil => simp [enc]
  | cons x ls ih =>
    have h1 := h.head
    have h2 := ih h.tail
    rw [enc_cons]
    simp
    omega
theorem few127 {s : ByteArray} (h : isName s.data.toList = true) : (labs s.data.toList).length ≤ 127 := by
  obtain ⟨e1, e2, _, e4⟩ := enc_of h
  have := labs_few e2
  rw [← e1] at this
  omega
theorem pos_in {s : ByteArray} (h : isName s.data.toList = true) (i : Nat) : pos (labs s.data.toList) i < s.size := by
  obtain ⟨e1, _, _, _⟩ := enc_of h
  have := pos_lt (labs s.data.toList) i
  rw [← e1, data_len] at this
  exact this
theorem foldK_still {l : List UInt8} {k : Nat} (h : k < l.length) (hb : fb l[k] = l[k]) : foldK l (k + 1) = foldK l k := by
  rw [← foldK_set l k h, hb]
  apply List.ext_getElem (by simp)
  intro j h1 h2
  rw [List.getElem_set]
  split
  · rename_i e; subst e; rw [foldK_at l _ h]
  · rfl
theorem refFold_no (s : ByteArray) (w : World) (hs : s.size ≤ maxLen) (h : isName s.data.toList = false) :
    Calls Try.prog 39 #[.string s] w fun e w' => e = .returned (.string ⟨(foldR s.data.toList).toArray⟩) ∧ Below w.heap.size w w' := by
  rw [foldR_no h]
  go_enter Try.func39, Try.ntmps39
  go_wp2_with (go_at_call 37; refine (places_any _ _ hs).mono ?_; rintro e w' ⟨v, rfl, hb, hp⟩)
  go_ret
  exact ⟨rfl, hb⟩
/-- The place of a name's label, and the label's length there. -/
theorem name_at {s : ByteArray} (h : isName s.data.toList = true) (i : Nat) (hi : i < (labs s.data.toList).length) :
    ∃ hp : pos (labs s.data.toList) i < s.data.toList.length, (s.data.toList[pos (labs s.data.toList) i]'hp).toNat ≤ 63 := by
  obtain ⟨e1, e2, _, _⟩ := enc_of h
  have hp : pos (labs s.data.toList) i < s.data.toList.length := by have := pos_in h i; rw [data_len]; exact this
  refine ⟨hp, ?_⟩
  have h1 := pos_at (labs s.data.toList) i hi
  have e : ∀ (a b : List UInt8) (k : Nat) (ha : k < a.length) (hb : k < b.length), a = b → a[k] = b[k] := by
    intro a b k ha hb e; subst e; rfl
  rw [e _ _ _ hp (pos_lt _ _) e1, h1, len_byte (e2 _ (List.getElem_mem _)).2]
  exact (e2 _ (List.getElem_mem _)).2
set_option maxRecDepth 20000 in
set_option maxHeartbeats 2000000 in
theorem refFold_yes (s : ByteArray) (w : World) (h : isName s.data.toList = true) :
    Calls Try.prog 39 #[.string s] w fun e w' => e = .returned (.string ⟨(foldR s.data.toList).toArray⟩) ∧ Below w.heap.size w w' := by
  rw [foldR_yes h]
  have h255 := name_size h
  have hsl := data_len s
  have hs : s.size ≤ maxLen := by unfold maxLen; omega
  have h127 := few127 h
  go_enter Try.func39, Try.ntmps39
  go_wp2_with (first
    | (go_at_call 37; refine (places_any _ _ hs).mono ?_; rintro e w1 ⟨v, rfl, hb1, hp⟩; obtain ⟨gp, cap, qs, rfl, hpl, hown⟩ := hp h; obtain ⟨n, hn⟩ : ∃ n, n = qs.length := ⟨_, rfl⟩; rw [← hn] at hown ⊢; have hq := places_pos h hpl; have HN : Hid (n = (labs s.data.toList).length + 1) := hn.trans hq.1; have HNQ : Hid (n = qs.length) := hn; have HQ : Hid (∀ i, i ≤ (labs s.data.toList).length → qs.getD i 0 = pos (labs s.data.toList) i) := hq.2; have hn3 : n ≤ 128 := (by have := hn.trans hq.1; omega); have hn4 : 1 ≤ n := (by have := hn.trans hq.1; omega); clear hp hpl hn hq)
    | (refine wpList_bytesB _ rfl (.tmp 15) rfl s rfl ?_; intro cap2 w2 hrow hg hsz))
  have hgl1 : gp < w1.heap.size := (hown.lt gp rfl).2
  have hgb : w.heap.size ≤ gp := (hown.lt gp rfl).1
  have hpc : ∀ j, j < n → w2.cell? ⟨gp, j, none⟩ = some (.int .i64 (pos (labs s.data.toList) j : Nat)) := fun j hj => by
    have e : w1.cell? ⟨gp, j, none⟩ = some (.int .i64 (pos (labs s.data.toList) j : Nat)) := by
      rw [hown.cellAt j (by omega)]
      have hj' : j < qs.length := by rw [← HNQ.out]; exact hj
      rw [← HQ.out j (by have := HN.out; omega)]
      simp [hj', iv]
    exact hg.cell e (by simp)
  have hb2 : Below w.heap.size w w2 := next hb1 (below_of hg)
  obtain ⟨go, hgo⟩ : ∃ go, go = w1.heap.size := ⟨_, rfl⟩
  rw [← hgo] at hrow ⊢
  have hne : gp ≠ go := by omega
  have hgo2 : w.heap.size ≤ go := by omega
  have HROW : Hid (BRow w2 go (foldK s.data.toList (pos (labs s.data.toList) 0))) := by unfold Hid; rw [pos_zero, foldK_zero]; exact hrow
  clear hown hrow hg hsz hb1 hgo hgl1
  go_loopw [6] (fun i wr => ∃ (k : Nat), k + 1 ≤ n ∧ i = .int .i64 k ∧ Hid (BRow wr go (foldK s.data.toList (pos (labs s.data.toList) k))) ∧ (∀ j, j < n → wr.cell? ⟨gp, j, none⟩ = some (.int .i64 (pos (labs s.data.toList) j : Nat))) ∧ Below w.heap.size w wr) (fun i _ => n - (intOf i).toNat)
  case atStart => exact ⟨0, by omega, rfl, HROW, hpc, hb2⟩
  case round =>
    clear hpc HROW hb2
    obtain ⟨k, hk, rfl, HR, hpc, hbel⟩ := hrel
    by_cases hkn : k + 1 < n
    · have hkn2 : (k : Int) + 1 < (n : Int) := by omega
      obtain ⟨hPl, h63⟩ := name_at h k (by have := HN.out; omega)
      have hsucc := pos_succ (labs s.data.toList) k (by have := HN.out; omega)
      have hQs := pos_in h (k + 1)
      have hc1 := hpc k (by omega)
      have hc2 := hpc (k + 1) hkn
      have HR2 : Hid (BRow wr go (foldK s.data.toList (pos (labs s.data.toList) k + 1))) := by
        unfold Hid; rw [foldK_still hPl (fb_small h63)]; exact HR
      obtain ⟨P, hP⟩ : ∃ P, P = pos (labs s.data.toList) k := ⟨_, rfl⟩
      obtain ⟨Q, hQ⟩ : ∃ Q, Q = pos (labs s.data.toList) (k + 1) := ⟨_, rfl⟩
      rw [← hP] at hc1 HR2 hsucc
      rw [← hQ] at hc2 hQs hsucc
      have HPC : Hid (∀ j, j < n → wr.cell? ⟨gp, j, none⟩ = some (.int .i64 (pos (labs s.data.toList) j : Nat))) := hpc
      have HQQ : Hid (Q = pos (labs s.data.toList) (k + 1)) := hQ
      have hPQ : P + 1 ≤ Q := by omega
      clear hP hQ hpc hsucc h63 hPl HR
      go_wp2
      go_loopw [7] (fun i wq => ∃ (j : Nat), P + 1 ≤ j ∧ j ≤ Q ∧ i = .int .i64 j ∧ Hid (BRow wq go (foldK s.data.toList j)) ∧ (∀ j, j < n → wq.cell? ⟨gp, j, none⟩ = some (.int .i64 (pos (labs s.data.toList) j : Nat))) ∧ Below w.heap.size w wq) (fun i _ => Q - (intOf i).toNat)
      case atStart => exact ⟨P + 1, Nat.le_refl _, hPQ, by go_num, HR2, HPC.out, hbel⟩
      case round =>
        clear hc1 hc2 HR2 HPC hbel
        obtain ⟨j, hPj, hjQ, rfl, HRj, hpcj, hbelj⟩ := hrel
        have hc2 := hpcj (k + 1) hkn
        rw [← HQQ.out] at hc2
        have HPJ : Hid (∀ j, j < n → wr.cell? ⟨gp, j, none⟩ = some (.int .i64 (pos (labs s.data.toList) j : Nat))) := hpcj
        clear hpcj
        by_cases hjl : j < Q
        · have hjs : j < s.size := by omega
          have hjl2 : j < s.data.toList.length := by omega
          have hjk : j < (foldK s.data.toList j).length := by rw [foldK_len]; exact hjl2
          have hb8 := (s[j]).toNat_lt
          have hcell : wr.cell? ⟨go, j, none⟩ = some (.int .u8 (s[j].toNat : Int)) := by
            rw [HRj.out.cell j hjk, foldK_at _ _ hjl2]; rfl
          by_cases h65 : 65 ≤ s[j].toNat ∧ s[j].toNat ≤ 90
          · have hfro := HRj.out.frozen j hjk
            have hst := HRj.out.stored j hjk (fb s[j])
            have hfn : ((fb s[j]).toNat : Int) = (s[j].toNat : Int) + 32 := by rw [fb_nat, if_pos h65]; omega
            rw [hfn] at hst
            rw [show s[j] = s.data.toList[j] from rfl, foldK_set _ _ hjl2] at hst
            have HST : Hid (BRow (wr.setCell ⟨go, j, none⟩ (.int .u8 ((s[j].toNat : Int) + 32))) go (foldK s.data.toList (j + 1)) ∧ wr.grownBy (wr.setCell ⟨go, j, none⟩ (.int .u8 ((s[j].toNat : Int) + 32))) (some go)) := hst
            have h65a := h65.1
            have h65b := h65.2
            clear hst hfn h65
            go_wp2
            go_roundw
            case rel => exact ⟨j + 1, by omega, by omega, by go_num, HST.out.1, fun i hi => HST.out.2.cell (HPJ.out i hi) (by intro e; exact hne (Option.some.inj e)), hbelj.grown HST.out.2 hbelj.size (fun q e => by have := Option.some.inj e; omega)⟩
            case measure => simp [intOf]; omega
          · have HK : Hid (BRow wr go (foldK s.data.toList (j + 1))) := by
              have h66 : ¬ (65 ≤ s.data.toList[j].toNat ∧ s.data.toList[j].toNat ≤ 90) := h65
              unfold Hid; rw [foldK_still hjl2 (by unfold fb; rw [if_neg h66])]; exact HRj
            by_cases h65a : 65 ≤ s[j].toNat
            · have h65b : decide ((s[j].toNat : Int) ≤ 90) = false := by simp; omega
              clear h65
              go_wp2
              go_roundw
              case rel => exact ⟨j + 1, by omega, by omega, by go_num, HK, HPJ.out, hbelj⟩
              case measure => simp [intOf]; omega
            · have h65b : decide ((65 : Int) ≤ (s[j].toNat : Int)) = false := by simp; omega
              clear h65
              go_wp2
              go_roundw
              case rel => exact ⟨j + 1, by omega, by omega, by go_num, HK, HPJ.out, hbelj⟩
              case measure => simp [intOf]; omega
        · have hjq : j = Q := by omega
          have HJQ : Hid (j = Q) := hjq
          clear hjq
          go_wp2
          go_roundw
          case rel => exact ⟨k + 1, by omega, by go_num, by unfold Hid; rw [← HQQ.out, ← HJQ.out]; exact HRj, HPJ.out, hbelj⟩
          case measure => simp [intOf]; omega
    · have HA : Hid (BRow wr go (foldL s.data.toList)) := by
        have hke : k = (labs s.data.toList).length := by have := HN.out; omega
        obtain ⟨e1, _, _, _⟩ := enc_of h
        have hlast := pos_last (labs s.data.toList)
        rw [← e1] at hlast
        have h1 := pos_end (labs s.data.toList) (labs s.data.toList).length (Nat.le_refl _)
        have hp : pos (labs s.data.toList) (labs s.data.toList).length < s.data.toList.length := by omega
        have e : ∀ (a b : List UInt8) (k : Nat) (ha : k < a.length) (hb : k < b.length), a = b → a[k] = b[k] := by
          intro a b k ha hb e; subst e; rfl
        have h2 : s.data.toList[pos (labs s.data.toList) (labs s.data.toList).length]'hp = 0 := (e _ _ _ hp (pos_lt _ _) e1).trans h1
        have h3 := foldK_still hp (by rw [h2]; decide)
        have h4 := HR.out
        rw [hke, ← h3, foldK_all _ _ (by omega)] at h4
        exact h4
      have hn : (foldL s.data.toList).length = s.size := by rw [fold_len]; exact hsl
      have HNN : Hid ((foldL s.data.toList).length = s.size) := hn
      clear hn hpc
      go_wp2_with (refine wpList_stringC _ rfl (.tmp 58) rfl go s.size cap2 (foldL s.data.toList) rfl HNN.out HA.out ?_)
      go_ret
      exact ⟨rfl, hbel⟩
theorem refFold_any (s : ByteArray) (w : World) (hs : s.size ≤ maxLen) :
    Calls Try.prog 39 #[.string s] w fun e w' => e = .returned (.string ⟨(foldR s.data.toList).toArray⟩) ∧ Below w.heap.size w w' := by
  cases h : isName s.data.toList with
  | false => exact refFold_no s w hs h
  | true => exact refFold_yes s w h

end Go.Proofs.Ytbldoplemfjcjaa
