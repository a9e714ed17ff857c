/- RdataTxts holds: texts one behind the other; one that is too long is refused. -/
import Derived.Test.YtoeaogbeifkliaaWalkV
import Derived.Test.YtoeaogbeifkliaaRdH
import Derived.LoopN
namespace Go.Proofs.Ytoeaogbeifkliaa.rdataTxts
open Go.ChangeShapes Go.WideShapes Go.ChangeAt Go.RowKit
open Go.ChangeMaps (open_string shut_string)
open Pl

/-- At most 255 bytes. -/
def cut255 (p : ByteArray) : ByteArray := if 255 < p.size then p.extract 0 255 else p
theorem cut_size (p : ByteArray) : (cut255 p).size ≤ 255 := by
  unfold cut255
  split
  · simp; omega
  · omega
/-- The parts that are taken. -/
def qsOf (ps : List ByteArray) (M : Nat) : List ByteArray := (ps.take M).map cut255
theorem qs_len {ps : List ByteArray} {M : Nat} (h : M ≤ ps.length) : (qsOf ps M).length = M := by simp [qsOf]; omega
theorem qs_at {ps : List ByteArray} {M k : Nat} (h : M ≤ ps.length) (hk : k < M) : (qsOf ps M).take (k + 1) = (qsOf ps M).take k ++ [cut255 (ps.getD k ⟨#[]⟩)] := by
  have hk2 : k < (qsOf ps M).length := by rw [qs_len h]; exact hk
  have hk3 : k < ps.length := by omega
  rw [List.take_succ_eq_append_getElem hk2]
  congr 2
  simp only [qsOf, List.getElem_map, List.getElem_take, List.getD_eq_getElem?_getD, List.getElem?_eq_getElem hk3]
  rfl
theorem qs_small {ps : List ByteArray} {M : Nat} (k : Nat) (hk : k < (qsOf ps M).length) : ((qsOf ps M).getD k ⟨#[]⟩).size ≤ 255 := by
  rw [List.getD_eq_getElem?_getD, List.getElem?_eq_getElem hk]
  simp only [qsOf, List.getElem_map]
  exact cut_size _
theorem txE_bound (l : List ByteArray) (h : ∀ k, k < l.length → (l.getD k ⟨#[]⟩).size ≤ 255) : (txE l).length ≤ 256 * l.length := by
  induction l with
  | nil => simp [txE]
  | cons p l ih =>
    have h0 : p.size ≤ 255 := h 0 (by simp)
    have := ih (fun k hk => h (k + 1) (by simpa using hk))
    have e : txE (p :: l) = txO p ++ txE l := by simp [txE]
    rw [e, List.length_append, txO_len, List.length_cons]; omega
theorem zero_cells (n : Nat) : madeCells #[.int .u8 0] n = ((List.replicate n (0 : UInt8)).map bv).toArray := made_zero n

/-- A row of strings that the call owns. -/
theorem srow_own {w : World} {base n : Nat} {v : Value} {qs : List ByteArray} (h : w.ownsRow base 9 1 v n (qs.map Value.string)) (hm : qs.length ≤ maxLen) (hz : ∀ k, k < qs.length → (qs.getD k ⟨#[]⟩).size ≤ maxLen) : SRow w v qs := by
  have hl : qs.length = n := by simpa using h.1
  refine ⟨?_, hm, hz⟩
  rcases h.2 with ⟨rfl, rfl⟩ | ⟨g, cap, cur, rfl, hb, hg, hnc, hm, hcs, htake⟩
  · exact .inl ⟨rfl, List.eq_nil_of_length_eq_zero hl⟩
  · refine .inr ⟨⟨g, 0, none⟩, cap, by rw [hl], fun k hk => ?_⟩
    rw [add_off, h.cellAt k (by omega)]
    simp [List.getD_eq_getElem?_getD, List.getElem?_eq_getElem hk]

theorem lit1 (n : Nat) (b : UInt8) (hb : (n : Int) = (b.toNat : Int)) (u : World) : (convert 52 9 (.slice (some ⟨u.heap.size, 0, none⟩) 1 1)).run Try.prog (u.alloc (.cells #[.int .u8 (n : Int)] 5)) = .ok (.string ⟨#[b]⟩) (u.alloc (.cells #[.int .u8 (n : Int)] 5)) := by
  have := conv_lit [b] u
  simp only [List.map_cons, List.map_nil, bv, ← hb] at this
  exact this
theorem one_txO (p : ByteArray) : (⟨#[UInt8.ofNat p.size]⟩ : ByteArray).data.toList ++ p.data.toList = txO p := rfl

theorem zeros_txt (k : Nat) (hk : k ≤ 300) : txtB [⟨(List.replicate k (0 : UInt8)).toArray⟩] = if k ≤ 255 then some ⟨(txE [⟨(List.replicate k (0 : UInt8)).toArray⟩]).toArray⟩ else none := by
  have hs : (⟨(List.replicate k (0 : UInt8)).toArray⟩ : ByteArray).size = k := by show (List.replicate k (0 : UInt8)).toArray.size = k; simp
  have hl : (txE [⟨(List.replicate k (0 : UInt8)).toArray⟩]).length = 1 + k := by
    have : txE [(⟨(List.replicate k (0 : UInt8)).toArray⟩ : ByteArray)] = txO ⟨(List.replicate k (0 : UInt8)).toArray⟩ := by simp [txE]
    rw [this, txO_len, hs]
  by_cases h : k ≤ 255
  · rw [if_pos h]
    refine txt_yes (fun j hj => ?_) (by simp) (by rw [hl]; omega)
    obtain rfl : j = 0 := by simp at hj; omega
    show (⟨(List.replicate k (0 : UInt8)).toArray⟩ : ByteArray).size ≤ 255
    rw [hs]; exact h
  · rw [if_neg h]
    refine txt_part (k := 0) (by simp) ?_
    show 255 < (⟨(List.replicate k (0 : UInt8)).toArray⟩ : ByteArray).size
    rw [hs]; omega

set_option maxRecDepth 20000 in
set_option maxHeartbeats 2000000 in
/-- Behind the loop. -/
theorem zTxt (k : Nat) (hk : k ≤ 300) (w : World) (v : Value) (h : SRow w v [⟨(List.replicate k (0 : UInt8)).toArray⟩]) : ∃ (R : ByteArray) (E : Int), (E == 0) = decide ((k : Int) ≤ 255) ∧ Calls Try.prog 24 #[v] w fun e w' => e = .returned (.tuple #[.string R, .int .i64 E]) ∧ Below w.heap.size w w' := by
  have hc := txt_any v _ w h
  rw [zeros_txt k hk] at hc
  by_cases h : k ≤ 255
  · rw [if_pos h] at hc
    exact ⟨_, 0, by simp; omega, hc⟩
  · rw [if_neg h] at hc
    exact ⟨_, 400, by simp; omega, hc⟩

theorem zrow {w : World} {base n : Nat} {v : Value} (h : w.ownsRow base 5 1 v n (madeCells (Value.int .u8 0).cells (n * 1)).toList) : w.ownsRow base 5 1 v n ((List.replicate n (0 : UInt8)).map bv) := by
  rw [Nat.mul_one, show (Value.int .u8 0).cells = #[.int .u8 0] from rfl, made_zero] at h
  simpa using h
theorem zsmall (k : Nat) (hk : k ≤ 300) : ∀ j, j < [(⟨(List.replicate k (0 : UInt8)).toArray⟩ : ByteArray)].length → ([(⟨(List.replicate k (0 : UInt8)).toArray⟩ : ByteArray)].getD j ⟨#[]⟩).size ≤ maxLen := by
  intro j hj
  obtain rfl : j = 0 := by simp at hj; omega
  show (List.replicate k (0 : UInt8)).toArray.size ≤ maxLen
  unfold maxLen; simp; omega

theorem new_str (w : World) (c : ByteArray) (j : Nat) (hj : j < [c].length) : (w.alloc (.cells #[.string c] 9)).cell? ((⟨w.heap.size, 0, none⟩ : Addr).add j) = some (.string [c][j]) := by
  obtain rfl : j = 0 := by simp at hj; omega
  rw [add_off, World.cell?_alloc_mark]; rfl

set_option maxRecDepth 20000 in
set_option maxHeartbeats 2000000 in
theorem walk_some (a : Addr) (N cap M r : Nat) (ps : List ByteArray) (y : Int) (w : World) (hN : N = ps.length) (hm : N ≤ maxLen) (hM : M = min N 20) (hy : bits .and .i64 y 15 = (r : Int)) (hr : r ≤ 15) (hc : ∀ k, k < N → w.cell? (a.add k) = some (.string (ps.getD k ⟨#[]⟩))) :
    Calls Try.prog 6 #[.slice (some a) N cap, .int .i64 y] w fun e w' => e = .returned (.bool true) ∧ Below w.heap.size w w' := by
  obtain ⟨i0, hi, hz0, hz1, hz2⟩ := info_parts info5
  have HC : Hid (∀ k, k < N → ∀ u, Below w.heap.size w u → u.cell? (a.add k) = some (.string (ps.getD k ⟨#[]⟩))) := fun k hk u hu => by
    have h1 := hc k hk
    rw [hu.cell (World.block_lt_of_cell? _ _ h1), h1]
  have HN : Hid (M ≤ ps.length) := by unfold Hid; omega
  have hMN : M ≤ N := by omega
  have hM20 : M ≤ 20 := by omega
  have HE : Hid (∀ j, j ≤ M → ¬ j < M → decide (j < N) = false ∨ (j < N ∧ decide ((j : Int) < 20) = false)) := fun j h1 h2 => by
    by_cases h3 : j < N
    · exact .inr ⟨h3, by simp; omega⟩
    · exact .inl (by simp; omega)
  unfold maxLen at hm
  clear hN hM hc
  obtain ⟨qs, hqs⟩ : ∃ qs, qs = qsOf ps M := ⟨_, rfl⟩
  have HL : Hid (qs.length = M) := by unfold Hid; rw [hqs]; exact qs_len HN.out
  have HQ : Hid (∀ k, k < M → qs.take (k + 1) = qs.take k ++ [cut255 (ps.getD k ⟨#[]⟩)]) := fun k hk => by rw [hqs]; exact qs_at HN.out hk
  have HZ : Hid (∀ k, k < qs.length → (qs.getD k ⟨#[]⟩).size ≤ 255) := by rw [hqs]; exact qs_small
  clear hqs
  have hb : Below w.heap.size w w := Below.refl _ _
  go_enter Try.func6, Try.ntmps6
  go_wp2_with (first
    | (go_at_call 27; go_must (refine (awake_any _).mono ?_); rintro e w0 ⟨rfl, b0⟩; replace hb := next hb b0; clear b0))
  go_loopw [5, 6, 7] (fun s v i wr => ∃ (k : Nat) (S : ByteArray), k ≤ M ∧ s = .string S ∧ i = .int .i64 (k : Int) ∧ S.size ≤ 256 * k ∧ Hid (S.data.toList = txE (qs.take k)) ∧ wr.ownsRow w.heap.size 9 1 v k ((qs.take k).map Value.string) ∧ (k = 0 → v = .slice none 0 0) ∧ Below w.heap.size w wr) (fun _ _ i _ => M - (intOf i).toNat)
  case atStart => exact ⟨0, ⟨#[]⟩, Nat.zero_le _, rfl, rfl, by decide, rfl, World.ownsRow_nil _ _ _ _, fun _ => rfl, hb⟩
  case round =>
    clear hb
    obtain ⟨k, S, hk, rfl, rfl, hS, HS, hown, hnil, hb⟩ := hrel
    have hB : w.heap.size ≤ wr.heap.size := hb.size
    by_cases hkM : k < M
    · have hkN : k < N := by omega
      have hk20 : (k : Int) < 20 := by omega
      have hcell := HC.out k hkN _ hb
      obtain ⟨p, hp⟩ : ∃ p, p = ps.getD k ⟨#[]⟩ := ⟨_, rfl⟩
      rw [← hp] at hcell
      obtain ⟨c, hcc⟩ : ∃ c, c = cut255 p := ⟨_, rfl⟩
      have hcs : c.size ≤ 255 := by rw [hcc]; exact cut_size p
      have HT : Hid (qs.take (k + 1) = qs.take k ++ [c]) := by unfold Hid; rw [HQ.out k hkM, ← hp, hcc]
      have HU : Hid ((c.size : Int) = ((UInt8.ofNat c.size).toNat : Int)) := by unfold Hid; rw [UInt8.toNat_ofNat']; omega
      have hlit := lit1 c.size (UInt8.ofNat c.size) HU.out
      have hw8 : IntKind.u8.wrap (c.size : Int) = (c.size : Int) := by simp [IntKind.wrap, IntKind.bits, IntKind.signed]; omega
      obtain ⟨B, hB1⟩ : ∃ B : ByteArray, B = ⟨#[UInt8.ofNat c.size]⟩ := ⟨_, rfl⟩
      have HB1 : Hid (B = ⟨#[UInt8.ofNat c.size]⟩) := hB1
      have hBs : B.size = 1 := by rw [hB1]; rfl
      rw [← hB1] at hlit
      have hz1' : S.size + B.size ≤ 10000 := by omega
      have hz2' : (S ++ B).size + c.size ≤ 10000 := by rw [ByteArray.size_append]; omega
      have HS2 : Hid ((S ++ B ++ c).data.toList = txE (qs.take (k + 1))) := by
        unfold Hid
        rw [HT.out, txE_snoc, app_list, app_list, HS.out, List.append_assoc, HB1.out, one_txO]
      have HS3 : Hid ((S ++ B ++ c).size ≤ 256 * (k + 1)) := by unfold Hid; rw [ByteArray.size_append, ByteArray.size_append]; omega
      clear hp hB1
      by_cases h255 : 255 < p.size
      · have h255' : (255 : Int) < (p.size : Int) := by omega
        have hcut := cut_to p 255 255 rfl (by omega)
        have hce : p.extract 0 255 = c := by rw [hcc]; unfold cut255; rw [if_pos h255]
        rw [hce] at hcut
        clear hcc hce h255
        go_wp2_with (first
          | (at_builtin; refine wpList_appS _ rfl _ _ rfl w.heap.size _ _ (qs.take k) rfl (hown.alloc _) hnil _ 1 1 [c] rfl rfl (.inr ⟨_, rfl, fun j hj => new_str wr c j hj⟩) (by omega) (by simp; omega) ?_; intro v' w2 h1 h2 h3 _))
        have HO : Hid (w2.ownsRow w.heap.size 9 1 v' (k + 1) ((qs.take (k + 1)).map Value.string)) := by unfold Hid; rw [HT.out]; exact h1
        have hb2 := lay (lay hb (.cells #[.string c] 9)) (.cells #[.string c] 9)
        have HB : Hid (Below w.heap.size w (w2.alloc (.cells #[.int .u8 (c.size : Int)] 5))) := lay ((lay hb _).grown h3 (lay hb _).size (fun j e => (hown.lt j e).1)) _
        clear h1 h2 h3 hb2
        go_roundw
        case rel => exact ⟨k + 1, S ++ B ++ c, by omega, rfl, by go_num, HS3.out, HS2, HO.out.alloc _, fun e => by omega, HB.out⟩
        case measure => simp [intOf]; omega
      · have h255' : decide ((255 : Int) < (p.size : Int)) = false := by simp; omega
        have hce : p = c := by rw [hcc]; unfold cut255; rw [if_neg h255]
        subst hce
        clear hcc h255
        go_wp2_with (first
          | (at_builtin; refine wpList_appS _ rfl _ _ rfl w.heap.size _ _ (qs.take k) rfl (hown.alloc _) hnil _ 1 1 [p] rfl rfl (.inr ⟨_, rfl, fun j hj => new_str wr p j hj⟩) (by omega) (by simp; omega) ?_; intro v' w2 h1 h2 h3 _))
        have HO : Hid (w2.ownsRow w.heap.size 9 1 v' (k + 1) ((qs.take (k + 1)).map Value.string)) := by unfold Hid; rw [HT.out]; exact h1
        have HB : Hid (Below w.heap.size w (w2.alloc (.cells #[.int .u8 (p.size : Int)] 5))) := lay ((lay hb _).grown h3 (lay hb _).size (fun j e => (hown.lt j e).1)) _
        clear h1 h2 h3
        go_roundw
        case rel => exact ⟨k + 1, S ++ B ++ p, by omega, rfl, by go_num, HS3.out, HS2, HO.out.alloc _, fun e => by omega, HB.out⟩
        case measure => simp [intOf]; omega
    · have hkM' : k = M := by omega
      have hall : qs.take k = qs := List.take_of_length_le (by rw [HL.out]; omega)
      have he := HE.out k hk hkM
      rw [hall] at hown
      have HS2 : Hid (S.data.toList = txE qs) := by unfold Hid; rw [HS.out, hall]
      clear hall HS HQ HC HE
      by_cases hM0 : k = 0
      · have hv := hnil hM0
        subst hv
        have hq0 : qs = [] := List.eq_nil_of_length_eq_zero (by rw [HL.out]; omega)
        have hS0 : S = ⟨#[]⟩ := by
          apply ByteArray.ext; apply Array.toList_inj.1
          rw [HS2.out, hq0]; rfl
        subst hS0
        clear HS2 hq0 HL HZ hown hnil hM0 hkM hkM' hk hS hMN hM20
        rcases he with he | ⟨he, he2⟩
        all_goals
          go_wp2_with (first
            | (at_make; refine wpList_make_full _ rfl _ _ 52 rfl w.heap.size 5 i0 (.int .u8 0) 1 Try.underlying52 hi hz0 hz1 .i64 .i64 _ _ (250 + r) rfl rfl (by omega) (by omega) (by rw [hz2]; omega) (by unfold maxLen; omega) hb.size ?_; intro w2 hown2 hgrow; replace hb := next hb (below_of hgrow); have hz := zrow hown2; clear hgrow hown2)
            | (refine wpList_string _ rfl (.tmp 60) rfl w.heap.size (250 + r) _ (List.replicate (250 + r) 0) rfl hz ?_)
            | (go_at_call_of 24 (#[Value.slice none 0 0]); go_must (refine (txt_nil _).mono ?_); rintro e w4 ⟨rfl, b1⟩; replace hb := next hb b1; clear b1)
            | (go_at_call 24; obtain ⟨R2, E2, hE2, c2⟩ := zTxt (250 + r) (by omega) _ _ (srow_new w2 [⟨(List.replicate (250 + r) (0 : UInt8)).toArray⟩] 9 1 _ rfl rfl (max9 (by simp)) (zsmall _ (by omega))); go_must (refine c2.mono ?_); rintro e w3 ⟨rfl, b1⟩; replace hb := next (lay hb _) b1; clear b1 c2)
            | (go_at_call 16; refine (num_any _ _).mono ?_; rintro e w' ⟨rfl, hw⟩; obtain rfl := hw.symm))
          go_ret
          exact ⟨rfl, hb⟩
      · obtain ⟨g, c, hv, _, _⟩ := hown.form (by omega)
        subst hv
        have hR : txtB qs = some S := by
          rw [txt_yes HZ.out (by rw [HL.out]; omega) (Nat.le_trans (txE_bound qs HZ.out) (by rw [HL.out]; omega))]
          congr 1
          apply ByteArray.ext; apply Array.toList_inj.1
          rw [HS2.out]
        have cT := txt_any _ qs wr (srow_own hown (by rw [HL.out]; unfold maxLen; omega) (fun j hj => Nat.le_trans (HZ.out j hj) (by unfold maxLen; omega)))
        rw [hR] at cT
        simp only [optT] at cT
        have hpos : (0 : Int) < (k : Int) := by omega
        clear HS2 HL HZ hown hnil hM0 hkM hkM' hk hS hMN hM20 hR
        rcases he with he | ⟨he, he2⟩
        all_goals
          go_wp2_with (first
            | (go_at_call_of 24 (#[Value.slice (some ⟨g, 0, none⟩) k c]); go_must (refine cT.mono ?_); rintro e w1 ⟨rfl, b1⟩; replace hb := next hb b1; clear b1)
            | (at_make; refine wpList_make_full _ rfl _ _ 52 rfl w.heap.size 5 i0 (.int .u8 0) 1 Try.underlying52 hi hz0 hz1 .i64 .i64 _ _ (250 + r) rfl rfl (by omega) (by omega) (by rw [hz2]; omega) (by unfold maxLen; omega) hb.size ?_; intro w2 hown2 hgrow; replace hb := next hb (below_of hgrow); have hz := zrow hown2; clear hgrow hown2)
            | (refine wpList_string _ rfl (.tmp 60) rfl w.heap.size (250 + r) _ (List.replicate (250 + r) 0) rfl hz ?_)
            | (go_at_call_of 24 (#[Value.slice none 0 0]); go_must (refine (txt_nil _).mono ?_); rintro e w4 ⟨rfl, b1⟩; replace hb := next hb b1; clear b1)
            | (go_at_call 24; obtain ⟨R2, E2, hE2, c2⟩ := zTxt (250 + r) (by omega) _ _ (srow_new w2 [⟨(List.replicate (250 + r) (0 : UInt8)).toArray⟩] 9 1 _ rfl rfl (max9 (by simp)) (zsmall _ (by omega))); go_must (refine c2.mono ?_); rintro e w3 ⟨rfl, b1⟩; replace hb := next (lay hb _) b1; clear b1 c2)
            | (go_at_call 16; refine (num_any _ _).mono ?_; rintro e w' ⟨rfl, hw⟩; obtain rfl := hw.symm))
          go_ret
          exact ⟨rfl, hb⟩

set_option maxRecDepth 20000 in
set_option maxHeartbeats 2000000 in
theorem walk_nil (r : Nat) (y : Int) (w : World) (hy : bits .and .i64 y 15 = (r : Int)) (hr : r ≤ 15) :
    Calls Try.prog 6 #[.slice none 0 0, .int .i64 y] w fun e w' => e = .returned (.bool true) ∧ Below w.heap.size w w' := by
  obtain ⟨i0, hi, hz0, hz1, hz2⟩ := info_parts info5
  have hb : Below w.heap.size w w := Below.refl _ _
  go_enter Try.func6, Try.ntmps6
  go_wp2_with (first
    | (go_at_call 27; go_must (refine (awake_any _).mono ?_); rintro e w0 ⟨rfl, b0⟩; replace hb := next hb b0; clear b0))
  go_loopw [5, 6, 7] (fun s v i wr => s = .string ⟨#[]⟩ ∧ v = .slice none 0 0 ∧ i = .int .i64 0 ∧ wr = w0) (fun _ _ _ _ => 0)
  case atStart => exact ⟨rfl, rfl, rfl, rfl⟩
  case round =>
    obtain ⟨rfl, rfl, rfl, hw⟩ := hrel; obtain rfl := hw.symm
    go_wp2_with (first
      | (at_make; refine wpList_make_full _ rfl _ _ 52 rfl w.heap.size 5 i0 (.int .u8 0) 1 Try.underlying52 hi hz0 hz1 .i64 .i64 _ _ (250 + r) rfl rfl (by omega) (by omega) (by rw [hz2]; omega) (by unfold maxLen; omega) hb.size ?_; intro w2 hown2 hgrow; replace hb := next hb (below_of hgrow); have hz := zrow hown2; clear hgrow hown2)
      | (refine wpList_string _ rfl (.tmp 60) rfl w.heap.size (250 + r) _ (List.replicate (250 + r) 0) rfl hz ?_)
      | (go_at_call_of 24 (#[Value.slice none 0 0]); go_must (refine (txt_nil _).mono ?_); rintro e w4 ⟨rfl, b1⟩; replace hb := next hb b1; clear b1)
      | (go_at_call 24; obtain ⟨R2, E2, hE2, c2⟩ := zTxt (250 + r) (by omega) _ _ (srow_new w2 [⟨(List.replicate (250 + r) (0 : UInt8)).toArray⟩] 9 1 _ rfl rfl (max9 (by simp)) (zsmall _ (by omega))); go_must (refine c2.mono ?_); rintro e w3 ⟨rfl, b1⟩; replace hb := next (lay hb _) b1; clear b1 c2)
      | (go_at_call 16; refine (num_any _ _).mono ?_; rintro e w' ⟨rfl, hw⟩; obtain rfl := hw.symm))
    go_ret
    exact ⟨rfl, hb⟩

theorem walk (v : Value) (ps : List ByteArray) (y : Int) (_ : (Lit.int .i64 y).wf = true) (w : World) (h : SRow w v ps) :
    Calls Try.prog 6 #[v, .int .i64 y] w fun e w' => e = .returned (.bool true) ∧ Below w.heap.size w w' := by
  have m4 : bits .and .i64 y 15 = y % 16 := mask y 4 (by decide)
  obtain ⟨r, hr⟩ := Int.eq_ofNat_of_zero_le (a := y % 16) (Int.emod_nonneg _ (by decide))
  have hr15 : r ≤ 15 := by have := Int.emod_lt_of_pos y (b := 16) (by decide); omega
  rw [hr] at m4
  obtain ⟨⟨rfl, rfl⟩ | ⟨a, cap, rfl, hc⟩, hm, _⟩ := h
  · exact walk_nil r y w m4 hr15
  · exact walk_some a _ cap _ r ps y w rfl hm rfl m4 hr15 hc

theorem own : ownKnob Try.prog.godebug = none := by kernel_rfl
theorem laidOut : laidOutB Try.prog = true := by kernel_rfl
theorem cells9 : Try.prog.cellsOf 9 = 1 := by kernel_rfl

set_option maxRecDepth 100000 in
theorem lifted (os : Os) (started : os.Started) (H : Type) (enc : TypeId × Value → H) :
    ReturnsInHanded {} Try.checked os 6 .any (Rows.rdataTxtsSpec.pre6 enc Try.prog Try.f6 Rows.rdataTxtsRow.domain false) (Rows.rdataTxtsSpec.post enc Try.prog Try.f6 false true false false) := by
  refine returnsInHanded_of_change (C := Try.checked) own started (by kernel_rfl) Try.func6
    (ChangeSpec.witness6 (enc := enc) (C := Try.checked) false ⟨#[], #[.slice none 0 0, .int .i64 0], []⟩ 8 (by kernel_rfl) (by kernel_rfl) (by kernel_rfl) (by kernel_rfl)) ?_
  intro W base args ds gs before hval0 hW _ _
  have hval : ∀ (j : Nat) t v, Try.f6.params[j]? = some t → args[j]? = some v → Value.okWide Try.prog W .any base t v := hval0
  have hW' := hW
  obtain ⟨p, q, hA0, hV, rfl, hfz, hnd⟩ := hW
  have hA : DataW.TrodAll enc Try.prog W 0 (fun _ => true) true Try.f6.params.toList args.toList ds p := hA0
  rw [Try.params6] at hA hval
  obtain ⟨v0, vs0, d0, ds0, p0, q0, hargs, rfl, rfl, h0, r0⟩ := trodAll_cons hA
  obtain ⟨v1, vs1, d1, ds1, p1, q1, rfl, rfl, rfl, h1, r1⟩ := trodAll_cons r0
  obtain ⟨rfl, rfl, rfl⟩ := trodAll_nil r1
  obtain rfl : args = #[v0, v1] := by cases args; simp_all
  obtain ⟨rfl, rfl⟩ := trodVars_none hV
  obtain ⟨a0, h0k, d0k, w0⟩ := open_srow (hval 0 24 v0 rfl rfl) h0
  obtain ⟨a1, rfl, rfl, rfl, w1⟩ := open_int Try.underlying3 (hval 1 3 v1 rfl rfl) h1
  have hlt0 : ∀ x ∈ p0, x.block < W.heap.size := fun x hx => by
    have := hW'.lt x (by simp [hx])
    simpa using this
  clear hA0 hval0
  simp only [List.append_nil] at hW'
  refine (walk v0 a0 a1 w1 W w0).mono fun e W' ⟨he, bel⟩ => ?_
  subst he
  exact ⟨_, rfl, _, _, _, [], _, [], hW', trodAll_mk1 (shut_bool Try.underlying4 _), (trodAll_cons_mk (Below.trod laidOut (by kernel_rfl) (of_decide_eq_true (by kernel_rfl)) h0k bel hlt0) (trodAll_cons_mk (shut_int Try.underlying3 w1) trodAll_mk0)), rfl, bel.frame _, fun h => by cases h⟩

/-- The statement. -/
theorem proved : Rows.RdataTxtsSaid :=
  OpenClaim.holds_of_wide 6 Try.f6 rfl rfl rfl rfl rfl rfl rfl ⟨rfl, rfl, rfl, rfl, rfl⟩ rfl rfl rfl rfl rfl (by kernel_rfl) Try.func6 (by kernel_rfl)
    (of_decide_eq_true (by kernel_rfl)) (by unfold Func.isWrapper; first | (rw [if_pos (by decide +kernel)]; kernel_rfl) | (rw [if_neg (by decide +kernel)]; exact ⟨rfl, rfl⟩))
    (fun os started H enc _ => lifted os started H enc)
#print axioms proved

end Go.Proofs.Ytoeaogbeifkliaa.rdataTxts
