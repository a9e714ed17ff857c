/- What Fold of package rel gives, where the seat has no more of rel. -/
import Derived.Test.YtbldoplemfjcjaaWiQ
import Derived.Test.YtbldoplemfjcjaaPlainI
namespace Go.Proofs.Ytbldoplemfjcjaa
open Go.RowKit
open Pl

theorem foldByte_any (b : UInt8) (w : World) :
    Calls Try.prog 44 #[.int .u8 (b.toNat : Int)] w fun e w' => e = .returned (.int .u8 ((fb b).toNat : Int)) ∧ w' = w := by
  have hb := b.toNat_lt
  have hf := fb_nat b
  by_cases h1 : 65 ≤ b.toNat
  · by_cases h2 : b.toNat ≤ 90
    · rw [if_pos ⟨h1, h2⟩] at hf
      rw [hf]
      clear hf
      go_enter Try.func44, Try.ntmps44
      go_wp2
      go_ret
      exact ⟨ret_int (by omega), rfl⟩
    · rw [if_neg (by omega)] at hf
      rw [hf]
      clear hf
      go_enter Try.func44, Try.ntmps44
      go_wp2
      go_ret
      exact ⟨rfl, rfl⟩
  · rw [if_neg (by omega)] at hf
    rw [hf]
    clear hf
    go_enter Try.func44, Try.ntmps44
    go_wp2
    go_ret
    exact ⟨rfl, rfl⟩
/-- Bytes, the first k of them folded. -/
def foldK (l : List UInt8) (k : Nat) : List UInt8 := foldL (l.take k) ++ l.drop k
theorem foldK_zero (l : List UInt8) : foldK l 0 = l := by simp [foldK, foldL]
theorem foldK_all (l : List UInt8) (k : Nat) (h : l.length ≤ k) : foldK l k = foldL l := by unfold foldK; rw [List.take_of_length_le h, List.drop_of_length_le h, List.append_nil]
theorem foldK_len (l : List UInt8) (k : Nat) : (foldK l k).length = l.length := by simp [foldK, foldL]; omega
theorem foldK_at (l : List UInt8) (k : Nat) (h : k < l.length) : (foldK l k)[k]'(by rw [foldK_len]; exact h) = l[k] := by
  unfold foldK
  rw [List.getElem_append_right (by simp [foldL]; omega), List.getElem_drop]
  congr 1
  simp [foldL]
  omega
theorem foldK_set (l : List UInt8) (k : Nat) (h : k < l.length) : (foldK l k).set k (fb l[k]) = foldK l (k + 1) := by
  unfold foldK
  have hk : (foldL (l.take k)).length = k := by simp [foldL]; omega
  rw [List.set_append_right _ _ (by omega), hk, Nat.sub_self, List.drop_eq_getElem_cons h, List.set_cons_zero, List.take_succ_eq_append_getElem h]
  unfold foldL
  rw [List.map_append, List.append_assoc]
  rfl
theorem foldR_yes {l : List UInt8} (h : isName l = true) : foldR l = foldL l := by unfold foldR; rw [if_pos h]
theorem foldR_no {l : List UInt8} (h : isName l = false) : foldR l = [] := by unfold foldR; rw [if_neg (by rw [h]; simp)]
theorem ret_str {a b : ByteArray} (h : a = b) : Ending.returned (.string a) = .returned (.string b) := by rw [h]
set_option maxRecDepth 20000 in
set_option maxHeartbeats 1000000 in
theorem fold_any (s : ByteArray) (w : World) (hs : s.size ≤ maxLen) :
    Calls Try.prog 35 #[.string s] w fun e w' => e = .returned (.string ⟨(foldR s.data.toList).toArray⟩) ∧ Below w.heap.size w w' := by
  cases h : isName s.data.toList with
  | false =>
    rw [foldR_no h]
    go_enter Try.func35, Try.ntmps35
    go_wp2_with (go_at_call 34; refine (may_as _ false _ hs h).mono ?_; rintro e w' ⟨rfl, hw⟩; obtain rfl := hw.symm)
    go_ret
    exact ⟨rfl, Below.refl _ _⟩
  | true =>
    rw [foldR_yes h]
    have h255 := name_size h
    have hl := data_len s
    go_enter Try.func35, Try.ntmps35
    go_wp2_with (first
      | (go_at_call 34; refine (may_as _ true _ hs h).mono ?_; rintro e w' ⟨rfl, hw⟩; obtain rfl := hw.symm)
      | (refine wpList_bytesB _ rfl (.tmp 9) rfl s rfl ?_; intro cap w1 hrow hg hsz))
    have hb1 := below_of hg
    go_loopw [13] (fun i wr => ∃ (k : Nat), k ≤ s.size ∧ i = .int .i64 k ∧ Hid (BRow wr w.heap.size (foldK s.data.toList k)) ∧ Below w.heap.size w wr ∧ w.heap.size < wr.heap.size) (fun i _ => s.size - (intOf i).toNat)
    case atStart => exact ⟨0, Nat.zero_le _, rfl, by unfold Hid; rw [foldK_zero]; exact hrow, hb1, by omega⟩
    case round =>
      clear hrow hg hsz hb1
      obtain ⟨k, hk, rfl, HR, hbel, hlt⟩ := hrel
      by_cases hks : k < s.size
      · have hkl : k < s.data.toList.length := by omega
        have hkl2 : k < (foldK s.data.toList k).length := by rw [foldK_len]; exact hkl
        have hcell : wr.cell? ⟨w.heap.size, k, none⟩ = some (.int .u8 (s[k].toNat : Int)) := by
          rw [HR.out.cell k hkl2, foldK_at _ _ hkl]; rfl
        have hfro := HR.out.frozen k hkl2
        have hst := HR.out.stored k hkl2 (fb s[k])
        rw [show s[k] = s.data.toList[k] from rfl, foldK_set _ _ hkl] at hst
        have HS : Hid (BRow (wr.setCell ⟨w.heap.size, k, none⟩ (.int .u8 ((fb s[k]).toNat : Int))) w.heap.size (foldK s.data.toList (k + 1)) ∧ wr.grownBy (wr.setCell ⟨w.heap.size, k, none⟩ (.int .u8 ((fb s[k]).toNat : Int))) (some w.heap.size)) := hst
        clear hst
        have hks2 : (k : Int) < (s.size : Int) := by omega
        go_wp2_with (go_at_call 44; go_must (refine (foldByte_any _ _).mono ?_); rintro e w' ⟨rfl, hw⟩; obtain rfl := hw.symm)
        go_roundw
        case rel => exact ⟨k + 1, by omega, by go_num, HS.out.1, hbel.grown HS.out.2 hbel.size (fun j e => by have := Option.some.inj e; omega), Nat.lt_of_lt_of_le hlt HS.out.2.size⟩
        case measure => simp [intOf]; omega
      · have HA : Hid (BRow wr w.heap.size (foldL s.data.toList)) := by unfold Hid; rw [← foldK_all s.data.toList k (by omega)]; exact HR
        have hn : (foldL s.data.toList).length = s.size := by rw [fold_len]; exact hl
        have HNN : Hid ((foldL s.data.toList).length = s.size) := hn
        clear hn
        go_wp2_with (refine wpList_stringC _ rfl (.tmp 24) rfl w.heap.size s.size cap (foldL s.data.toList) rfl HNN.out HA.out ?_)
        go_ret
        exact ⟨rfl, hbel⟩

end Go.Proofs.Ytbldoplemfjcjaa
