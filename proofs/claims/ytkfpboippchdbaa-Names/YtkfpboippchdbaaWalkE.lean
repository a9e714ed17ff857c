/- What Parse gives, for every string. -/
import Derived.Test.YtkfpboippchdbaaWalkC
import Derived.Test.YtkfpboippchdbaaWalkD
import Derived.Test.YtkfpboippchdbaaPlainB
import Derived.Laws.Slices
import Derived.Deep.LoopGhost
namespace Go.Proofs.Ytkfpboippchdbaa
open Go.RowKit
open Pl

/-- What Parse hands back. -/
def prV (R : Option (List UInt8)) : Value := match R with
  | some l => .tuple #[.string ⟨l.toArray⟩, .int .i64 0]
  | none => .tuple #[.string ⟨#[]⟩, .int .i64 100]

theorem ret_none {R : Option (List UInt8)} (h : R = none) : Ending.returned (.tuple #[.string ⟨#[]⟩, .int .i64 100]) = .returned (prV R) := by rw [h]; rfl
theorem ret_some {R : Option (List UInt8)} {l : List UInt8} (h : R = some l) : Ending.returned (.tuple #[.string ⟨l.toArray⟩, .int .i64 0]) = .returned (prV R) := by rw [h]; rfl

theorem readByte_none (s : ByteArray) (w : World) (h0 : 0 < s.size) (h1 : s.size ≤ 1000000) (h : rb s.data.toList = none) :
    Calls Try.prog 23 #[.string s] w fun e w' => e = .returned (.tuple #[.int .u8 0, .int .i64 0]) ∧ Below w.heap.size w w' := by
  have := readByte_any s w h0 h1
  rw [show rbV s.data.toList = .tuple #[.int .u8 0, .int .i64 0] from by unfold rbV; rw [h]; rfl] at this
  exact this
theorem readByte_some (s : ByteArray) (w : World) (h0 : 0 < s.size) (h1 : s.size ≤ 1000000) {b : UInt8} {k : Nat} (h : rb s.data.toList = some (b, k)) :
    Calls Try.prog 23 #[.string s] w fun e w' => e = .returned (.tuple #[.int .u8 (b.toNat : Int), .int .i64 (k : Int)]) ∧ Below w.heap.size w w' := by
  have := readByte_any s w h0 h1
  rw [show rbV s.data.toList = .tuple #[.int .u8 (b.toNat : Int), .int .i64 (k : Int)] from by unfold rbV; rw [h]; rfl] at this
  exact this

theorem maySize_as (n : Int) (b : Bool) (w : World) (h0 : -1000000 ≤ n) (h1 : n ≤ 1000000) (h : sizeB n = b) :
    Calls Try.prog 22 #[.int .i64 n] w fun e w' => e = .returned (.bool b) ∧ w' = w := by rw [← h]; exact maySize_any n w h0 h1

theorem set_place (o lb : List UInt8) (n : Nat) (x : Int) (hn : n = o.length) (hx : x = (lb.length : Int)) (hl : lb.length ≤ 63) :
    ((o ++ 0 :: lb).map bv).set n (.int .u8 x) = (o ++ UInt8.ofNat lb.length :: lb).map bv := by
  subst hn hx
  rw [List.map_append, List.set_append_right _ _ (by simp)]
  simp [bv]
  omega

theorem own_len {w : World} {B m : Nat} {v : Value} {l : List UInt8} (h : w.ownsRow B 5 1 v m (l.map bv)) : m = l.length := by
  have := h.1; simp at this; omega

theorem own_below {w w' : World} {B m : Nat} {v : Value} {xs : List Value} (h : w.ownsRow B 5 1 v m xs) (hb : Below w.heap.size w w') : w'.ownsRow B 5 1 v m xs :=
  h.kept (row := none) ⟨hb.os, hb.tape, hb.output, hb.size, fun k hk _ => hb.block k hk⟩ (by cases hv : v.ownBlock <;> simp)
theorem snoc_zero (o : List UInt8) : (o.map bv) ++ [.int .u8 0] = (o ++ [0]).map bv := by simp [bv]
theorem snoc_byte (o lb : List UInt8) (b : UInt8) : (o ++ 0 :: (lb ++ [b])).map bv = (o ++ 0 :: lb).map bv ++ [.int .u8 (b.toNat : Int)] := by simp [bv]

set_option maxRecDepth 20000 in
set_option maxHeartbeats 2000000 in
theorem parse_mid (s : ByteArray) (w : World) (h0 : 0 < s.size) (h1 : s.size ≤ 1020) (hd : (s.toList == [46]) = false) (he : (s.toList == []) = false) (R : Option (List UInt8)) (hR : Hid (POut s.data.toList [] 0 R)) :
    Calls Try.prog 11 #[.string s] w fun e w' => e = .returned (prV R) ∧ Below w.heap.size w w' := by
  obtain ⟨i0, hi, hz0, hz1, hz2⟩ := info_parts info5
  have hsl : s.data.toList.length = s.size := by rw [Array.length_toList]; rfl
  go_enter Try.func11, Try.ntmps11
  go_wp2
  go_step3
  go_wp2_with (at_make; refine wpList_make_own _ rfl _ _ 32 rfl w.heap.size 5 i0 (.int .u8 0) 1 Try.underlying32 hi hz0 hz1 .i64 .i64 255 255 rfl rfl rfl (by rw [hz2]; omega) (by unfold maxLen; omega) (Nat.le_refl _) ?_; intro w1 hown1 hgrow1)
  have hbel1 := below_of hgrow1
  clear hgrow1
  go_step3
  go_wp2
  go_loopg [4, 5] s.size (fun g v i wr => ∃ (a n gb cap : Nat) (o : List UInt8), a + g = s.size ∧ i = .int .i64 a ∧ v = .slice (some ⟨gb, 0, none⟩) n cap ∧ wr.ownsRow w.heap.size 5 1 (.slice (some ⟨gb, 0, none⟩) n cap) n (o.map bv) ∧ n ≤ a ∧ Below w.heap.size w wr ∧ Hid (POut s.data.toList o a R))
  case atStart => exact ⟨0, 0, _, _, [], by omega, rfl, rfl, hown1, Nat.le_refl _, hbel1, hR⟩
  case round =>
    clear hbel1 hown1 hR
    obtain ⟨a, n, gb, cap, o, hag, rfl, rfl, hown, hna, hbel, hpo⟩ := hrel
    have hB : w.heap.size ≤ wr.heap.size := hbel.size
    by_cases ha : a < s.size
    · have HI : Hid (PIn s.data.toList o [] a R) := out_in hpo (by omega)
      clear hpo
      go_wp2_with (at_builtin; refine wpList_app rfl _ _ rfl _ _ rfl w.heap.size _ _ _ rfl hown rfl (by simp) (by simp) (by simp; omega) hB ?_; intro g2 cap2 w2 h1 h2 h3 h4)
      have hbel2 := hbel.grown h2 hB (fun k e => (hown.lt k e).1)
      rw [snoc_zero] at h1
      clear h2 h3 h4 hown hbel hB
      go_loopg [4, 5] (s.size - a) (fun g v i wq => ∃ (a2 m gb cap : Nat) (lb : List UInt8), a2 + g = s.size ∧ a ≤ a2 ∧ i = .int .i64 a2 ∧ v = .slice (some ⟨gb, 0, none⟩) m cap ∧ wq.ownsRow w.heap.size 5 1 (.slice (some ⟨gb, 0, none⟩) m cap) m ((o ++ 0 :: lb).map bv) ∧ m ≤ a2 + 1 ∧ n = o.length ∧ Below w.heap.size w wq ∧ Hid (PIn s.data.toList o lb a2 R))
      case atStart => exact ⟨a, n + 1, _, _, [], by omega, Nat.le_refl _, rfl, rfl, h1, by omega, by have := own_len h1; simp at this; omega, hbel2, HI⟩
      case round =>
        clear h1 hbel2 HI
        obtain ⟨a2, m, gb2, cap3, lb, hag2, haa, rfl, rfl, hown, hma, hno, hbel, hpi⟩ := hrel
        have hB : w.heap.size ≤ wr.heap.size := hbel.size
        have hml : m = o.length + 1 + lb.length := by have := own_len hown; simp at this; omega
        have HML : Hid (m = o.length + 1 + lb.length) := hml
        have HNO : Hid (n = o.length) := hno
        have hmn : m = n + 1 + lb.length := by omega
        have HMN : Hid (m = n + 1 + lb.length) := hmn
        have hnm : n + 1 ≤ m := by omega
        clear hml hno hmn
        by_cases ha2 : a2 < s.size
        · have ha2' : a2 < s.data.toList.length := by omega
          have hb8 := (s[a2]).toNat_lt
          by_cases hdot : ((s[a2].toNat : Int) == 46) = true
          · have hc : s[a2].toNat = 46 := by simp at hdot; omega
            cases hsz : sizeB lb.length with
            | true =>
              have hl63 : lb.length ≤ 63 := by simp [sizeB] at hsz; omega
              have HP : Hid (POut s.data.toList (o ++ UInt8.ofNat lb.length :: lb) (a2 + 1) R) := in_dot hpi ha2' hc hsz
              have HSB : Hid (∀ c : Int, c = (lb.length : Int) → sizeB c = true) := fun c hc => by rw [hc]; exact hsz
              have hcell : wr.cell? ⟨gb2, n, none⟩ = some (.int .u8 0) := by
                rw [hown.cellAt n (by omega), HNO.out]; simp [bv]
              have hfro := hown.frozenAt n
              have hmn3 : (m : Int) - (n : Int) - 1 = (lb.length : Int) := by have := HMN.out; omega
              have HX : Hid ((m : Int) - (n : Int) - 1 = (lb.length : Int)) := hmn3
              have hx0 : (0 : Int) ≤ (m : Int) - (n : Int) - 1 := by omega
              have hx1 : (m : Int) - (n : Int) - 1 ≤ 63 := by omega
              clear hmn3 hsz hc hpi
              go_wp2_with (go_at_call 22; refine (maySize_as _ true _ (by omega) (by omega) (HSB.out _ (by have := HX.out; omega))).mono ?_; rintro e w' ⟨rfl, hw⟩; obtain rfl := hw.symm)
              have hst := hown.stored n (.int .u8 ((m : Int) - (n : Int) - 1))
              rw [set_place o lb n _ HNO.out HX.out hl63] at hst
              have hbel2 := hbel.grown hst.2 hB (fun k e => by have := (hown.lt k (by simpa [Value.ownBlock] using e)).1; omega)
              go_roundg (s.size - (a2 + 1))
              case rel => exact ⟨a2 + 1, m, gb2, cap3, _, by omega, by go_num, rfl, hst.1, by omega, hbel2, HP⟩
              case measure => omega
            | false =>
              have HP : Hid (R = none) := in_dot_no hpi ha2' hc hsz
              have HSB : Hid (∀ c : Int, c = (lb.length : Int) → sizeB c = false) := fun c hc => by rw [hc]; exact hsz
              clear hsz hc hpi
              go_wp2_with (go_at_call 22; refine (maySize_as _ false _ (by omega) (by omega) (HSB.out _ (by have := HMN.out; omega))).mono ?_; rintro e w' ⟨rfl, hw⟩; obtain rfl := hw.symm)
              try rw [Exit.noGoto_ret]
              go_ret2
              exact ⟨ret_none HP.out, hbel⟩
          · have hc : s[a2].toNat ≠ 46 := by simp at hdot; omega
            have hcut : ∀ u : World, (Instr.slice 9 (.string s) (some (.int .i64 (a2 : Int))) none none).run Try.prog u = .ok (.string (s.extract a2 s.size)) u := fun u => by
              have := run_slice_string_l (P := Try.prog) (w := u) (t := 9) (s := s) Try.underlying9 .i64 (a2 : Int) (by omega) (by omega)
              rw [this]; rfl
            have hql : (s.extract a2 s.size).data.toList = s.data.toList.drop a2 := by rw [ext_list, List.take_of_length_le (by simp)]
            have hqs : (s.extract a2 s.size).size = s.size - a2 := by simp
            obtain ⟨q, hq⟩ : ∃ q, q = s.extract a2 s.size := ⟨_, rfl⟩
            rw [← hq] at hql hqs hcut
            clear hq
            have HQL : Hid (q.data.toList = s.data.toList.drop a2) := hql
            have hq0 : 0 < q.size := by omega
            have hq1 : q.size ≤ 1000000 := by omega
            clear hql hqs
            cases hr : rb (s.data.toList.drop a2) with
            | none =>
              have HP : Hid (R = none) := in_none hpi ha2' hc hr
              have HR : Hid (rb q.data.toList = none) := by unfold Hid; rw [HQL.out]; exact hr
              clear hr hpi hc
              go_wp2_with (go_at_call 23; refine (readByte_none q _ hq0 hq1 HR.out).mono ?_; rintro e w2 ⟨rfl, hb2⟩)
              try rw [Exit.noGoto_ret]
              go_ret2
              exact ⟨ret_none HP.out, hbel.trans (hb2.mono hB)⟩
            | some bk =>
              obtain ⟨b, k⟩ := bk
              have HP : Hid (PIn s.data.toList o (lb ++ [b]) (a2 + k) R) := in_some hpi ha2' hc hr
              have HR : Hid (rb q.data.toList = some (b, k)) := by unfold Hid; rw [HQL.out]; exact hr
              have hw := rb_width hr
              have hk1 : 1 ≤ k := hw.1
              have hk2 : a2 + k ≤ s.size := by have := hw.2; simp at this; omega
              have hke : ((k : Int) == 0) = false := by simp; omega
              have hb8' := b.toNat_lt
              clear hr hpi hc hw
              go_wp2_with (first | (go_at_call 23; refine (readByte_some q _ hq0 hq1 HR.out).mono ?_; rintro e w2 ⟨rfl, hb2⟩; have hown2 := own_below hown hb2; have hbel2 := hbel.trans (hb2.mono hB); have hB2 := hbel2.size) | (at_builtin; refine wpList_app rfl _ _ rfl _ _ rfl w.heap.size _ _ _ rfl hown2 rfl (by simp) (by simp) (by simp; omega) hB2 ?_; intro g3 cap4 w3 h1 h2 h3 h4))
              have hbel3 := hbel2.grown h2 hB2 (fun k e => (hown2.lt k e).1)
              rw [← snoc_byte] at h1
              go_roundg (s.size - (a2 + k))
              case rel => exact ⟨a2 + k, m + 1, g3, cap4, _, by omega, by omega, by go_num, rfl, h1, by omega, HNO.out, hbel3, HP⟩
              case measure => omega
        · have HP : Hid (R = none) := in_end hpi (by omega)
          clear hpi
          go_wp2
          try rw [Exit.noGoto_ret]
          go_ret2
          exact ⟨ret_none HP.out, hbel⟩
    · have HE : Hid (R = fin o) := out_end hpo (by omega)
      clear hpo
      have hno := own_len hown
      have HNO : Hid (n = o.length) := hno
      clear hno
      by_cases h255 : 255 ≤ n
      · go_wp2_with (at_builtin; refine wpList_app rfl _ _ rfl _ _ rfl w.heap.size _ _ _ rfl hown rfl (by simp) (by simp) (by simp; omega) hB ?_; intro g2 cap2 w2 h1 h2 h3 h4)
        have hbel2 := hbel.grown h2 hB (fun k e => (hown.lt k e).1)
        try rw [Exit.noGoto_ret]
        go_ret2
        exact ⟨ret_none (by rw [HE.out, fin, if_pos (by have := HNO.out; omega)]), hbel2⟩
      · go_wp2_with (first | (at_builtin; refine wpList_app rfl _ _ rfl _ _ rfl w.heap.size _ _ _ rfl hown rfl (by simp) (by simp) (by simp; omega) hB ?_; intro g2 cap2 w2 h1 h2 h3 h4; rw [snoc_zero] at h1; have hbel2 := hbel.grown h2 hB (fun k e => (hown.lt k e).1)) | (refine wpList_string _ rfl (.tmp 74) rfl _ _ _ (o ++ [0]) rfl h1 ?_))
        try rw [Exit.noGoto_ret]
        go_ret2
        exact ⟨ret_some (by rw [HE.out, fin, if_neg (by have := HNO.out; omega)]), hbel2⟩

theorem beq_no {a b : List UInt8} (h : a ≠ b) : (a == b) = false := by
  cases hb : (a == b) with
  | false => rfl
  | true => exact absurd (eq_of_beq hb) h

theorem parse_any (s : ByteArray) (w : World) (hs : s.size ≤ maxLen) :
    Calls Try.prog 11 #[.string s] w fun e w' => e = .returned (prV (prs s.data.toList)) ∧ Below w.heap.size w w' := by
  unfold maxLen at hs
  have hsl : s.data.toList.length = s.size := by rw [Array.length_toList]; rfl
  by_cases hd : s.data.toList = [46]
  · have hq : prs s.data.toList = some [0] := by rw [prs, if_pos hd]
    have HR : Hid (prs s.data.toList = some [0]) := hq
    have hd' : (s.toList == [46]) = true := by rw [ByteArray.toList_eq, hd]; rfl
    clear hq hd
    go_enter Try.func11, Try.ntmps11
    go_wp2
    go_step3
    go_wp2
    try rw [Exit.noGoto_ret]
    go_ret2
    exact ⟨ret_some HR.out, Below.refl _ _⟩
  · have hd' : (s.toList == [46]) = false := by rw [ByteArray.toList_eq]; exact beq_no hd
    by_cases h0 : s.size = 0
    · have he : s.data.toList = [] := List.eq_nil_of_length_eq_zero (by omega)
      have HR : Hid (prs s.data.toList = none) := by unfold Hid; rw [prs, if_neg hd, if_pos (by omega)]
      have he' : (s.toList == []) = true := by rw [ByteArray.toList_eq, he]; rfl
      clear he hd
      go_enter Try.func11, Try.ntmps11
      go_wp2
      go_step3
      go_wp2
      try rw [Exit.noGoto_ret]
      go_ret2
      exact ⟨ret_none HR.out, Below.refl _ _⟩
    · have he' : (s.toList == []) = false := by rw [ByteArray.toList_eq]; exact beq_no (fun e => by rw [e] at hsl; simp at hsl; omega)
      by_cases h1 : s.size ≤ 1020
      · exact parse_mid s w (by omega) h1 hd' he' _ (out_start (by omega) (by omega) hd)
      · have HR : Hid (prs s.data.toList = none) := by unfold Hid; rw [prs, if_neg hd, if_pos (by omega)]
        clear hd
        go_enter Try.func11, Try.ntmps11
        go_wp2
        go_step3
        go_wp2
        try rw [Exit.noGoto_ret]
        go_ret2
        exact ⟨ret_none HR.out, Below.refl _ _⟩

end Go.Proofs.Ytkfpboippchdbaa
