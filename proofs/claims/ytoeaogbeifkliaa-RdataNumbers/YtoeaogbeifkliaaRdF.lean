/- What Txt of package rdata gives, for every argument. -/
import Derived.Test.YtoeaogbeifkliaaRdE
import Derived.Lib.AppendStr
namespace Go.Proofs.Ytoeaogbeifkliaa
open Go.RowKit
open Pl

/-- A text with its length ahead. -/
def txO (p : ByteArray) : List UInt8 := UInt8.ofNat p.size :: p.data.toList
/-- Texts one behind the other. -/
def txE (ps : List ByteArray) : List UInt8 := ps.flatMap txO
theorem txO_len (p : ByteArray) : (txO p).length = 1 + p.size := by simp [txO]; omega
theorem txE_snoc (ps : List ByteArray) (p : ByteArray) : txE (ps ++ [p]) = txE ps ++ txO p := by simp [txE]
theorem txE_take {ps : List ByteArray} {k : Nat} (h : k < ps.length) : txE (ps.take (k + 1)) = txE (ps.take k) ++ txO (ps.getD k ⟨#[]⟩) := by
  rw [List.take_succ_eq_append_getElem h, txE_snoc, List.getD_eq_getElem?_getD, List.getElem?_eq_getElem h]; rfl
theorem txE_le (ps : List ByteArray) (k : Nat) : (txE (ps.take k)).length ≤ (txE ps).length := by
  have : txE ps = txE (ps.take k) ++ txE (ps.drop k) := by
    unfold txE
    rw [← List.flatMap_append, List.take_append_drop]
  rw [this, List.length_append]; omega
theorem txE_ge (ps : List ByteArray) : ps.length ≤ (txE ps).length := by
  induction ps with
  | nil => simp
  | cons p ps ih =>
    have : txE (p :: ps) = txO p ++ txE ps := by simp [txE]
    rw [this, List.length_append, txO_len, List.length_cons]; omega

/-- TypeTxt's data of the parts. -/
def txtB (ps : List ByteArray) : Option ByteArray :=
  if (∀ k, k < ps.length → (ps.getD k ⟨#[]⟩).size ≤ 255) ∧ 1 ≤ ps.length ∧ (txE ps).length ≤ 65535 then some ⟨(txE ps).toArray⟩ else none
theorem txt_yes {ps : List ByteArray} (h1 : ∀ k, k < ps.length → (ps.getD k ⟨#[]⟩).size ≤ 255) (h2 : 1 ≤ ps.length) (h3 : (txE ps).length ≤ 65535) : txtB ps = some ⟨(txE ps).toArray⟩ := if_pos ⟨h1, h2, h3⟩
theorem txt_part {ps : List ByteArray} {k : Nat} (hk : k < ps.length) (h : 255 < (ps.getD k ⟨#[]⟩).size) : txtB ps = none := if_neg fun ⟨h1, _, _⟩ => by have := h1 k hk; omega
theorem txt_none {ps : List ByteArray} (h : ps.length = 0) : txtB ps = none := if_neg fun ⟨_, h1, _⟩ => by omega
theorem txt_long {ps : List ByteArray} {k : Nat} (h : 65535 < (txE (ps.take k)).length) : txtB ps = none := if_neg fun ⟨_, _, h1⟩ => by have := txE_le ps k; omega

/-- A row of strings that came in. -/
def SRow (w : World) (v : Value) (ps : List ByteArray) : Prop :=
  ((v = .slice none 0 0 ∧ ps = []) ∨ ∃ (a : Addr) (cap : Nat), v = .slice (some a) ps.length cap ∧ ∀ k, k < ps.length → w.cell? (a.add k) = some (.string (ps.getD k ⟨#[]⟩))) ∧ ps.length ≤ maxLen ∧ ∀ k, k < ps.length → (ps.getD k ⟨#[]⟩).size ≤ maxLen

theorem SRow.below {w w' : World} {v : Value} {ps : List ByteArray} (h : SRow w v ps) (hb : Below w.heap.size w w') : SRow w' v ps := by
  obtain ⟨h1, h2, h3⟩ := h
  refine ⟨?_, h2, h3⟩
  rcases h1 with h1 | ⟨a, cap, rfl, hc⟩
  · exact .inl h1
  · refine .inr ⟨a, cap, rfl, fun k hk => ?_⟩
    have := hc k hk
    rw [hb.cell (World.block_lt_of_cell? _ _ this)]; exact this

theorem cells_txO (p : ByteArray) (b : Int) (hb : b = ((UInt8.ofNat p.size).toNat : Int)) : Value.int .u8 b :: Lib.strCells p = (txO p).map bv := by
  subst hb
  simp [txO, bv, Lib.strCells]

theorem txt_nil (w : World) : Calls Try.prog 24 #[.slice none 0 0] w fun e w' => e = .returned (.tuple #[.string ⟨#[]⟩, .int .i64 400]) ∧ Below w.heap.size w w' := by
  go_enter Try.func24, Try.ntmps24
  go_wp2
  go_loopw [4, 12] (fun s i wr => s = .int .i64 0 ∧ i = .int .i64 0 ∧ wr = w) (fun _ _ _ => 0)
  case atStart => exact ⟨rfl, rfl, rfl⟩
  case round =>
    obtain ⟨rfl, rfl, hw⟩ := hrel; obtain rfl := hw.symm
    go_wp2
    go_ret2
    exact ⟨rfl, Below.refl _ _⟩

set_option maxRecDepth 20000 in
set_option maxHeartbeats 1000000 in
theorem txt_some (a : Addr) (N cap : Nat) (ps : List ByteArray) (w : World) (hN : N = ps.length) (hm : N ≤ maxLen) (hz : ∀ k, k < N → (ps.getD k ⟨#[]⟩).size ≤ maxLen) (hc : ∀ k, k < N → w.cell? (a.add k) = some (.string (ps.getD k ⟨#[]⟩))) :
    Calls Try.prog 24 #[.slice (some a) N cap] w fun e w' => e = .returned (optT (txtB ps)) ∧ Below w.heap.size w w' := by
  obtain ⟨i0, hi, hz0, hz1, hz2⟩ := info_parts info5
  have HC : Hid (∀ k, k < N → ∀ u, Below w.heap.size w u → u.cell? (a.add k) = some (.string (ps.getD k ⟨#[]⟩))) := fun k hk u hu => by
    have h1 := hc k hk
    rw [hu.cell (World.block_lt_of_cell? _ _ h1), h1]
  have HZ : Hid (∀ k, k < N → (ps.getD k ⟨#[]⟩).size ≤ maxLen) := hz
  have HN : Hid (N = ps.length) := hN
  unfold maxLen at hm
  clear hN hz hc
  have hb : Below w.heap.size w w := Below.refl _ _
  go_enter Try.func24, Try.ntmps24
  go_wp2
  go_loop [4, 12] (fun s i => ∃ k n : Nat, k ≤ N ∧ n ≤ 65535 ∧ s = .int .i64 (n : Int) ∧ i = .int .i64 (k : Int) ∧ Hid (n = (txE (ps.take k)).length) ∧ Hid (∀ j, j < k → (ps.getD j ⟨#[]⟩).size ≤ 255)) (fun _ i => N - (intOf i).toNat)
  case atStart => exact ⟨0, 0, Nat.zero_le _, by decide, rfl, rfl, rfl, fun j hj => by omega⟩
  case round =>
    obtain ⟨k, n, hk, hn, rfl, rfl, HL, HA⟩ := hrel
    by_cases hkN : k < N
    · have hcell := HC.out k hkN w hb
      obtain ⟨p, hp⟩ : ∃ p, p = ps.getD k ⟨#[]⟩ := ⟨_, rfl⟩
      rw [← hp] at hcell
      have HP : Hid (p = ps.getD k ⟨#[]⟩) := hp
      have hpm : p.size ≤ maxLen := by rw [hp]; exact HZ.out k hkN
      have HT : Hid ((txE (ps.take (k + 1))).length = n + (1 + p.size)) := by unfold Hid; rw [txE_take (by rw [← HN.out]; exact hkN), List.length_append, txO_len, ← hp, HL.out]
      unfold maxLen at hpm
      clear hp
      by_cases h255 : p.size ≤ 255
      · have h255' : decide ((255 : Int) < (p.size : Int)) = false := by simp; omega
        by_cases htot : n + (1 + p.size) ≤ 65535
        · have htot' : decide ((65535 : Int) < (n : Int) + (1 + (p.size : Int))) = false := by simp; omega
          have HA2 : Hid (∀ j, j < k + 1 → (ps.getD j ⟨#[]⟩).size ≤ 255) := fun j hj => by
            by_cases e : j = k
            · subst e; rw [← HP.out]; exact h255
            · exact HA.out j (by omega)
          go_wp2
          go_round
          case rel => exact ⟨k + 1, n + (1 + p.size), by omega, htot, by go_num, by go_num, HT.out.symm, HA2⟩
          case measure => simp [intOf]; omega
        · have htot' : (65535 : Int) < (n : Int) + (1 + (p.size : Int)) := by omega
          have HR : Hid (txtB ps = none) := txt_long (k := k + 1) (by rw [HT.out]; omega)
          go_wp2
          go_ret2
          exact ⟨ret_opt HR.out rfl, hb⟩
      · have h255' : (255 : Int) < (p.size : Int) := by omega
        have HR : Hid (txtB ps = none) := txt_part (k := k) (by rw [← HN.out]; exact hkN) (by rw [← HP.out]; omega)
        go_wp2
        go_ret2
        exact ⟨ret_opt HR.out rfl, hb⟩
    · have hkN' : k = N := by omega
      have hall : ps.take k = ps := List.take_of_length_le (by rw [← HN.out]; omega)
      have HL2 : Hid (n = (txE ps).length) := by have := HL.out; rw [hall] at this; exact this
      have HA2 : Hid (∀ j, j < ps.length → (ps.getD j ⟨#[]⟩).size ≤ 255) := by rw [← HN.out, ← hkN']; exact HA
      clear hall HL HA
      by_cases hn0 : n = 0
      · have HR : Hid (txtB ps = none) := txt_none (by have := txE_ge ps; have := HL2.out; omega)
        have hn0' : ((n : Int) == 0) = true := by simpa using hn0
        clear hn0 hkN'
        go_wp2
        go_ret2
        exact ⟨ret_opt HR.out rfl, hb⟩
      · have hn0' : ((n : Int) == 0) = false := by simpa using hn0
        have HR : Hid (txtB ps = some ⟨(txE ps).toArray⟩) := txt_yes HA2.out (by
          rcases Nat.eq_zero_or_pos ps.length with e | e
          · exfalso; apply hn0; rw [HL2.out, List.eq_nil_of_length_eq_zero e]; rfl
          · exact e) (by rw [← HL2.out]; exact hn)
        have hex : decide (k < N) = false := by simp; omega
        clear hn0 hkN' hkN hk HZ
        go_wp2_with (at_make; refine wpList_make_own _ rfl _ _ 52 rfl w.heap.size 5 i0 (.int .u8 0) 1 Try.underlying52 hi hz0 hz1 .i64 .i64 _ n rfl rfl rfl (by rw [hz2]; omega) (by unfold maxLen; omega) hb.size ?_; intro w2 hown hgrow; replace hb := next hb (below_of hgrow); clear hgrow)
        go_loopw [7, 35] (fun o i wr => ∃ (k m : Nat), k ≤ N ∧ m ≤ n ∧ i = .int .i64 (k : Int) ∧ wr.ownsRow w.heap.size 5 1 o m ((txE (ps.take k)).map bv) ∧ Hid (m = (txE (ps.take k)).length) ∧ Below w.heap.size w wr) (fun _ i _ => N - (intOf i).toNat)
        case atStart => exact ⟨0, 0, Nat.zero_le _, Nat.zero_le _, rfl, hown, rfl, hb⟩
        case round =>
          clear hb hown hn0'
          obtain ⟨k, m, hk, hmn, rfl, hown, HM, hb⟩ := hrel
          have hB : w.heap.size ≤ wr.heap.size := hb.size
          by_cases hkN : k < N
          · have hcell := HC.out k hkN _ hb
            obtain ⟨p, hp⟩ : ∃ p, p = ps.getD k ⟨#[]⟩ := ⟨_, rfl⟩
            rw [← hp] at hcell
            have hstep : txE (ps.take (k + 1)) = txE (ps.take k) ++ txO p := by rw [txE_take (by rw [← HN.out]; exact hkN), ← hp]
            have h255 : p.size ≤ 255 := by rw [hp]; exact HA2.out k (by rw [← HN.out]; exact hkN)
            have hle := txE_le ps (k + 1)
            rw [hstep, List.length_append, txO_len, ← HM.out, ← HL2.out] at hle
            have HS : Hid (txE (ps.take (k + 1)) = txE (ps.take k) ++ txO p) := hstep
            have hw8 : IntKind.u8.wrap (p.size : Int) = (p.size : Int) := by simp [IntKind.wrap, IntKind.bits, IntKind.signed]; omega
            have HU : Hid ((p.size : Int) = ((UInt8.ofNat p.size).toNat : Int)) := by unfold Hid; rw [UInt8.toNat_ofNat']; omega
            clear hp hstep
            go_wp2_with (first
              | (at_builtin; refine wpList_app rfl _ _ rfl _ _ rfl w.heap.size _ _ _ rfl hown rfl (by simp) (by simp) (by simp; omega) hB ?_; intro g cap w2 h1 h2 h3 h4; simp only [List.length_cons, List.length_nil, Nat.zero_add] at h1)
              | (at_builtin; (refine Lib.wpList_append_own_string _ rfl _ _ 52 9 rfl w.heap.size 5 i0 Try.underlying52 Try.underlying9 hi hz0 hz1 hz2 _ _ _ rfl h1 p rfl (by unfold maxLen; omega) (by omega) (Nat.le_trans hB h2.size) ?_); intro v' w3 h5 h6 _))
            have HO : Hid (w3.ownsRow w.heap.size 5 1 v' (m + (1 + p.size)) ((txE (ps.take (k + 1))).map bv)) := by
              unfold Hid
              rw [HS.out, List.map_append, ← cells_txO p _ HU.out, ← Nat.add_assoc]
              simpa using h5
            have hb2 := hb.grown h2 hB (fun k e => (hown.lt k e).1)
            have HB3 : Hid (Below w.heap.size w w3) := hb2.grown h6 hb2.size (fun k e => (h1.lt k e).1)
            have HM2 : Hid (m + (1 + p.size) = (txE (ps.take (k + 1))).length) := by unfold Hid; rw [HS.out, List.length_append, txO_len, ← HM.out]
            clear h1 h2 h3 h4 h5 h6 hb2 hown hb
            go_roundw
            case rel => exact ⟨k + 1, m + (1 + p.size), by omega, hle, by go_num, HO.out, HM2, HB3.out⟩
            case measure => simp [intOf]; omega
          · have hall : ps.take k = ps := List.take_of_length_le (by rw [← HN.out]; omega)
            rw [hall] at hown
            clear hall
            go_wp2_with (refine wpList_string _ rfl (.tmp 49) rfl w.heap.size m _ (txE ps) rfl hown ?_)
            go_ret2
            exact ⟨ret_opt HR.out rfl, hb⟩

theorem txt_any (v : Value) (ps : List ByteArray) (w : World) (h : SRow w v ps) :
    Calls Try.prog 24 #[v] w fun e w' => e = .returned (optT (txtB ps)) ∧ Below w.heap.size w w' := by
  obtain ⟨⟨rfl, rfl⟩ | ⟨a, cap, rfl, hc⟩, hm, hz⟩ := h
  · exact txt_nil w
  · exact txt_some a _ cap ps w rfl hm hz hc

end Go.Proofs.Ytoeaogbeifkliaa
