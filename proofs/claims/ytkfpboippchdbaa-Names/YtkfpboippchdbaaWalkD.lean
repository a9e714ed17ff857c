/- What Text gives, for every string. -/
import Derived.Test.YtkfpboippchdbaaWalkB
import Derived.Laws.Strings2
namespace Go.Proofs.Ytkfpboippchdbaa
open Go.RowKit
open Pl

/-- What Text hands back. -/
def txV (l : List UInt8) : Value := if isName l then .tuple #[.string ⟨(tx l).toArray⟩, .int .i64 0] else .tuple #[.string ⟨#[]⟩, .int .i64 100]

theorem text_no (s : ByteArray) (w : World) (hs : s.size ≤ maxLen) (h : isName s.data.toList = false) :
    Calls Try.prog 9 #[.string s] w fun e w' => e = .returned (txV s.data.toList) ∧ Below w.heap.size w w' := by
  have ht : txV s.data.toList = .tuple #[.string ⟨#[]⟩, .int .i64 100] := by unfold txV; rw [h]; rfl
  rw [ht]
  clear ht
  go_enter Try.func9, Try.ntmps9
  go_wp2_with (first | (go_at_call 14; refine (may_any _ _ hs).mono ?_; rintro e w' ⟨rfl, hw⟩; obtain rfl := hw.symm))
  go_ret2
  exact ⟨rfl, Below.refl _ _⟩

theorem ext_list (s : ByteArray) (a b : Nat) : (s.extract a b).data.toList = (s.data.toList.drop a).take (b - a) := by simp

theorem tx_long {l : List UInt8} (h : l.length ≠ 1) : tx l = txS 0 l := by unfold tx; rw [if_neg h]

theorem ret_text {l : List UInt8} (h : isName l = true) : Ending.returned (.tuple #[.string ⟨(tx l).toArray⟩, .int .i64 0]) = .returned (txV l) := by unfold txV; rw [h]; rfl

theorem text_root (s : ByteArray) (w : World) (h : isName s.data.toList = true) (h1 : s.data.toList.length = 1) (hr : (s.toList == [0]) = true) :
    Calls Try.prog 9 #[.string s] w fun e w' => e = .returned (txV s.data.toList) ∧ Below w.heap.size w w' := by
  have hs : s.size = 1 := by rw [← h1, Array.length_toList]; rfl
  have HT : Hid (tx s.data.toList = [46]) := by unfold Hid tx; rw [if_pos h1]
  clear h1
  go_enter Try.func9, Try.ntmps9
  go_wp2_with (first | (go_at_call 14; refine (may_any _ _ (by unfold maxLen; omega)).mono ?_; rintro e w' ⟨rfl, hw⟩; obtain rfl := hw.symm))
  go_ret2
  exact ⟨Eq.trans (by rw [HT.out]; rfl) (ret_text h), Below.refl _ _⟩

theorem ret_done {l done : List UInt8} (h : isName l = true) (hl : l.length ≠ 1) (hd : txS 0 l = done) : Ending.returned (.tuple #[.string ⟨done.toArray⟩, .int .i64 0]) = .returned (txV l) := by
  rw [← hd, ← tx_long hl]; exact ret_text h

theorem esc_len (b : UInt8) : 1 ≤ (esc b).length ∧ (esc b).length ≤ 4 := by unfold esc; split <;> simp

theorem snoc_esc (done lab : List UInt8) (k : Nat) (h : k < lab.length) : (done ++ (lab.take (k + 1)).flatMap esc).map bv = (done ++ (lab.take k).flatMap esc).map bv ++ (esc lab[k]).map bv := by
  rw [List.take_succ_eq_append_getElem h, List.flatMap_append]; simp

theorem all_esc (done lab : List UInt8) (k : Nat) (h : lab.length ≤ k) : (done ++ lab.flatMap esc ++ [46]).map bv = (done ++ (lab.take k).flatMap esc).map bv ++ [.int .u8 46] := by
  rw [List.take_of_length_le h]; simp [bv]

theorem ne_block {v : Value} {gc g sz n cap : Nat} (h3 : v.ownBlock = some g ∨ sz ≤ g) (hne : v.ownBlock ≠ some gc) (hlt : gc < sz) : Value.ownBlock (.slice (some ⟨g, 0, none⟩) n cap) ≠ some gc := by
  intro e
  have e' : g = gc := by simpa [Value.ownBlock] using e
  subst e'
  rcases h3 with h3 | h3
  · exact hne h3
  · omega

set_option maxHeartbeats 1000000 in
theorem text_yes (s : ByteArray) (w : World) (h : isName s.data.toList = true) (h255 : s.size ≤ 255) (h1 : s.data.toList.length ≠ 1) (hr : (s.toList == [0]) = false) :
    Calls Try.prog 9 #[.string s] w fun e w' => e = .returned (txV s.data.toList) ∧ Below w.heap.size w w' := by
  obtain ⟨i0, hi, hz0, hz1, hz2⟩ := info_parts info5
  have hsl : s.data.toList.length = s.size := by rw [Array.length_toList]; rfl
  have hsome : (nmS 0 s.data.toList).isSome = true := by rw [← nm_short (by omega)]; exact h
  have HST : Hid (TxAt s.data.toList 0 []) := txAt_start hsome
  clear hsome
  go_enter Try.func9, Try.ntmps9
  go_wp2_with (first | (go_at_call 14; refine (may_any _ _ (by unfold maxLen; omega)).mono ?_; rintro e w' ⟨rfl, hw⟩; obtain rfl := hw.symm) | (at_make; refine wpList_make_own _ rfl _ _ 32 rfl w.heap.size 5 i0 (.int .u8 0) 1 Try.underlying32 hi hz0 hz1 .i64 .i64 1020 1020 rfl rfl rfl (by rw [hz2]; omega) (by unfold maxLen; omega) (Nat.le_refl _) ?_; intro w1 hown1 hgrow1))
  have hbel1 := below_of hgrow1
  clear hgrow1
  go_loopw [4, 5] (fun v i wr => ∃ (p n : Nat) (done : List UInt8), p < s.size ∧ i = .int .i64 p ∧ wr.ownsRow w.heap.size 5 1 v n (done.map bv) ∧ n ≤ 4 * p ∧ Below w.heap.size w wr ∧ Hid (TxAt s.data.toList p done)) (fun _ i _ => s.size - (intOf i).toNat)
  case atStart => exact ⟨0, 0, [], by have := txAt_lt HST.out; omega, rfl, hown1, by omega, hbel1, HST⟩
  case round =>
    clear hbel1 hown1
    obtain ⟨p, n, done, hp, rfl, hown, hn, hbel, hat⟩ := hrel
    have hb8 := (s[p]).toNat_lt
    have hp' : p < s.data.toList.length := by omega
    by_cases h0 : ((s[p].toNat : Int) != 0) = true
    · have hz0' : s[p].toNat ≠ 0 := by simp at h0; omega
      have hroom := txAt_room hat hp' hz0'
      have hr1 : s[p].toNat ≤ 63 := hroom.1
      have hr2 : p + 1 + s[p].toNat < s.size := by have := hroom.2; rw [hsl] at this; exact this
      have HE : Hid (TxAt s.data.toList (p + 1 + s[p].toNat) (done ++ ((s.data.toList.drop (p + 1)).take s[p].toNat).flatMap esc ++ [46])) := txAt_step hat hp' hz0'
      obtain ⟨lab, hlab⟩ : ∃ lab, lab = (s.data.toList.drop (p + 1)).take s[p].toNat := ⟨_, rfl⟩
      rw [← hlab] at HE
      have hll : lab.length = s[p].toNat := by rw [hlab]; simp; omega
      have HL : Hid ((s.extract (p + 1) (p + 1 + s[p].toNat)).data.toList = lab) := by unfold Hid; rw [ext_list, hlab]; congr 1; omega
      have HLL : Hid (lab.length = s[p].toNat) := hll
      have hcut : ∀ u : World, (Instr.slice 9 (.string s) (some (.int .i64 ((p : Int) + 1))) (some (.int .i64 ((p : Int) + 1 + (s[p].toNat : Int)))) none).run Try.prog u = .ok (.string (s.extract (p + 1) (p + 1 + s[p].toNat))) u := fun u => by
        have := run_slice_string (P := Try.prog) u 9 s .i64 .i64 ((p : Int) + 1) ((p : Int) + 1 + (s[p].toNat : Int)) Try.underlying9 (by omega) (by omega) (by omega)
        rw [this, show ((p : Int) + 1).toNat = p + 1 from by omega, show ((p : Int) + 1 + (s[p].toNat : Int)).toNat = p + 1 + s[p].toNat from by omega]
      clear hroom hlab hll hat
      go_wp2_with (first | (refine wpList_bytes _ rfl (.tmp 30) rfl _ rfl lab HL.out s[p].toNat HLL.out ?_; intro cap w2 hc hg hz))
      have hbel2 : Below w.heap.size w w2 := hbel.grown hg hbel.size (by simp)
      have hown2 := hown.kept hg (by cases hv : u4.ownBlock <;> simp)
      have hne2 : u4.ownBlock ≠ some wr.heap.size := fun e => by have := (hown.lt _ e).2; omega
      have hlt2 : wr.heap.size < w2.heap.size := by omega
      clear hg hz hown hbel
      go_loopw [4, 33] (fun v i wq => ∃ (k m : Nat), k ≤ s[p].toNat ∧ i = .int .i64 k ∧ wq.ownsRow w.heap.size 5 1 v m ((done ++ (lab.take k).flatMap esc).map bv) ∧ m ≤ 4 * p + 4 * k ∧ v.ownBlock ≠ some wr.heap.size ∧ (∀ j (hj : j < lab.length), wq.cell? ⟨wr.heap.size, j, none⟩ = some (.int .u8 (lab[j].toNat : Int))) ∧ wr.heap.size < wq.heap.size ∧ Below w.heap.size w wq) (fun _ i _ => s[p].toNat - (intOf i).toNat)
      case atStart => exact ⟨0, n, Nat.zero_le _, rfl, by simpa using hown2, by omega, hne2, hc, hlt2, hbel2⟩
      case round =>
        clear hown2 hne2 hlt2 hbel2 hc
        obtain ⟨k, m, hk, rfl, hownk, hmk, hnek, hck, hltk, hbelk⟩ := hrel
        have hB : w.heap.size ≤ wr.heap.size := hbelk.size
        by_cases hkl : k < s[p].toNat
        · have hcell := hck k (by rw [HLL.out]; exact hkl)
          have HC : Hid (∀ j (hj : j < lab.length), wr.cell? _ = _) := hck
          clear hck
          go_wp2_with (go_at_call 19; refine (appendByte_any w.heap.size _ _ _ _ _ hownk (by omega) hB).mono ?_; rintro e w3 ⟨g, cap', rfl, h1, h2, h3, h4⟩)
          go_roundw
          case rel => exact ⟨k + 1, _, by omega, by go_num, by rw [snoc_esc done lab k (by rw [HLL.out]; exact hkl)]; exact h1, by have := esc_len (lab[k]'(by rw [HLL.out]; exact hkl)); omega, ne_block h3 hnek hltk, fun j hj => h2.cell (HC.out j hj) (Ne.symm hnek), Nat.lt_of_lt_of_le hltk h2.size, hbelk.grown h2 hB (fun k e => (hownk.lt k e).1)⟩
          case measure => simp [intOf]; omega
        · clear hck
          go_wp2_with (at_builtin; refine wpList_app rfl _ _ rfl _ _ rfl w.heap.size _ _ _ rfl hownk rfl (by simp) (by simp) (by simp; omega) hB ?_; intro g cap' w3 h1 h2 h3 h4)
          go_roundw
          case rel => exact ⟨p + 1 + s[p].toNat, _, _, by omega, by go_num, by rw [all_esc done lab k (by rw [HLL.out]; omega)]; exact h1, by simp; omega, hbelk.grown h2 hB (fun k e => (hownk.lt k e).1), HE⟩
          case measure => simp [intOf]; omega
    · have hz : s[p].toNat = 0 := by simp at h0; omega
      have HE : Hid (txS 0 s.data.toList = done) := txAt_end hat hp' hz
      go_wp2_with (first | (refine wpList_string _ rfl (.tmp 45) rfl _ _ _ done rfl hown ?_))
      go_ret2
      exact ⟨ret_done h h1 HE.out, hbel⟩

theorem root_of {l : List UInt8} (h : isName l = true) (h1 : l.length = 1) : l = [0] := by
  match l, h1 with
  | [c], _ =>
    simp only [isName, nm, nmS] at h
    by_cases hc : c.toNat = 0
    · rw [show c = 0 from UInt8.toNat_inj.1 (by simpa using hc)]
    · simp [hc] at h

theorem text_any (s : ByteArray) (w : World) (hs : s.size ≤ maxLen) :
    Calls Try.prog 9 #[.string s] w fun e w' => e = .returned (txV s.data.toList) ∧ Below w.heap.size w w' := by
  have hsl : s.data.toList.length = s.size := by rw [Array.length_toList]; rfl
  cases h : isName s.data.toList with
  | false => exact text_no s w hs h
  | true =>
    by_cases h1 : s.data.toList.length = 1
    · exact text_root s w h h1 (by rw [ByteArray.toList_eq, root_of h h1]; rfl)
    · refine text_yes s w h ?_ h1 ?_
      · rcases Nat.lt_or_ge 255 s.size with h2 | h2
        · exfalso; simp [isName, nm, hsl, h2] at h
        · exact h2
      · rw [ByteArray.toList_eq]
        cases hb : (s.data.toList == [0]) with
        | false => rfl
        | true => exact absurd (by rw [eq_of_beq hb]; rfl) h1

end Go.Proofs.Ytkfpboippchdbaa
