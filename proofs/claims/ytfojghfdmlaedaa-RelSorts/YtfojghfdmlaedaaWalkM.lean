/- What Child and Fold of package rel give, for every argument. -/
import Derived.Test.YtfojghfdmlaedaaWalkL
import Derived.Lib.AppendStr
namespace Go.Proofs.Ytfojghfdmlaedaa
open Go.RowKit
open Pl

theorem child_no {x l : List UInt8} (h : x.length < 1 ∨ 63 < x.length ∨ isName l = false ∨ 255 < 1 + x.length + l.length) : childR x l = none := by
  unfold childR
  rw [if_neg]
  rintro ⟨h1, h2, h3, h4⟩
  rcases h with h | h | h | h
  · omega
  · omega
  · rw [h] at h3; simp at h3
  · omega

theorem str_cells (s : ByteArray) : Lib.strCells s = s.data.toList.map bv := rfl

theorem child_cells (x s : ByteArray) (h : x.size ≤ 63) : [] ++ [Value.int .u8 (x.size : Int)] ++ Lib.strCells x ++ Lib.strCells s = (UInt8.ofNat x.size :: (x.data.toList ++ s.data.toList)).map bv := by
  rw [str_cells, str_cells]
  simp [bv]
  omega

set_option maxRecDepth 20000 in
set_option maxHeartbeats 1000000 in
theorem child_any (x s : ByteArray) (w : World) (_hx : x.size ≤ maxLen) (hs : s.size ≤ maxLen) :
    Calls Try.prog 11 #[.string x, .string s] w fun e w' => e = .returned (optV (childR x.data.toList s.data.toList)) ∧ Below w.heap.size w w' := by
  have hxl := data_len x
  have hsl := data_len s
  by_cases h1 : (x.size : Int) < 1
  · have HR : Hid (childR x.data.toList s.data.toList = none) := child_no (.inl (by omega))
    go_enter Try.func11, Try.ntmps11
    go_wp2
    go_ret2
    exact ⟨ret_none HR.out, Below.refl _ _⟩
  · have h1' : decide ((x.size : Int) < 1) = false := by simpa using h1
    by_cases h2 : (63 : Int) < (x.size : Int)
    · have HR : Hid (childR x.data.toList s.data.toList = none) := child_no (.inr (.inl (by omega)))
      go_enter Try.func11, Try.ntmps11
      go_wp2
      go_ret2
      exact ⟨ret_none HR.out, Below.refl _ _⟩
    · have h2' : decide ((63 : Int) < (x.size : Int)) = false := by simpa using h2
      cases h3 : isName s.data.toList with
      | false =>
        have HR : Hid (childR x.data.toList s.data.toList = none) := child_no (.inr (.inr (.inl h3)))
        go_enter Try.func11, Try.ntmps11
        go_wp2_with (go_at_call 20; refine (may_as _ false _ hs h3).mono ?_; rintro e w' ⟨rfl, hw⟩; obtain rfl := hw.symm)
        go_ret2
        exact ⟨ret_none HR.out, Below.refl _ _⟩
      | true =>
        have h255 := name_size h3
        by_cases h4 : (255 : Int) < 1 + (x.size : Int) + (s.size : Int)
        · have HR : Hid (childR x.data.toList s.data.toList = none) := child_no (.inr (.inr (.inr (by omega))))
          go_enter Try.func11, Try.ntmps11
          go_wp2_with (go_at_call 20; refine (may_as _ true _ hs h3).mono ?_; rintro e w' ⟨rfl, hw⟩; obtain rfl := hw.symm)
          go_ret2
          exact ⟨ret_none HR.out, Below.refl _ _⟩
        · have h4' : decide ((255 : Int) < 1 + (x.size : Int) + (s.size : Int)) = false := by simpa using h4
          have HR : Hid (childR x.data.toList s.data.toList = some (UInt8.ofNat x.size :: (x.data.toList ++ s.data.toList))) := by
            unfold Hid childR
            rw [if_pos ⟨by omega, by omega, h3, by omega⟩, hxl]
          have h5 : x.size ≤ 63 := by omega
          obtain ⟨i0, hi, hz0, hz1, hz2⟩ := info_parts info5
          have t1 : True := trivial
          have t2 : True := trivial
          clear h1 h2 h4
          go_enter Try.func11, Try.ntmps11
          go_wp2_with (first
            | (go_at_call 20; refine (may_as _ true _ hs h3).mono ?_; rintro e w' ⟨rfl, hw⟩; obtain rfl := hw.symm)
            | (at_make; refine wpList_make_own _ rfl _ _ 44 rfl w.heap.size 5 i0 (.int .u8 0) 1 Try.underlying44 hi hz0 hz1 .i64 .i64 _ (1 + x.size + s.size) rfl rfl (by omega) (by rw [hz2]; omega) (by unfold maxLen; omega) (Nat.le_refl _) ?_; intro w1 hown1 hgrow1)
            | (at_builtin; (refine wpList_app rfl _ _ rfl _ _ rfl w.heap.size _ _ _ rfl hown1 rfl (by simp) (by simp) (by simp) hgrow1.size ?_); intro g2 cap2 w2 h1 h2 h3 h4; have hb2 := (below_of hgrow1).grown h2 hgrow1.size (fun k e => (hown1.lt k e).1))
            | (at_builtin; have _t := t1; (refine Lib.wpList_append_own_string _ rfl (.tmp 42) (.tmp 43) 44 9 rfl w.heap.size 5 i0 Try.underlying44 Try.underlying9 hi hz0 hz1 hz2 _ _ _ rfl h1 x rfl (by unfold maxLen; simp; omega) (by simp; omega) hb2.size ?_); intro v3 w3 k1 k2 k3; clear t1; have hb3 := hb2.grown k2 hb2.size (fun k e => (h1.lt k e).1))
            | (at_builtin; have _t := t2; (refine Lib.wpList_append_own_string _ rfl (.tmp 45) (.tmp 46) 44 9 rfl w.heap.size 5 i0 Try.underlying44 Try.underlying9 hi hz0 hz1 hz2 _ _ _ rfl k1 s rfl (by unfold maxLen; simp; omega) (by simp; omega) hb3.size ?_); intro v4 w4 m1 m2 m3; clear t2; have hb4 := hb3.grown m2 hb3.size (fun k e => (k1.lt k e).1); rw [child_cells x s h5] at m1)
            | (refine wpList_string _ rfl (.tmp 47) rfl _ _ _ (UInt8.ofNat x.size :: (x.data.toList ++ s.data.toList)) rfl m1 ?_))
          go_ret2
          exact ⟨by rw [HR.out]; rfl, hb4⟩

end Go.Proofs.Ytfojghfdmlaedaa
