/- What New and Get give. -/
import Derived.Test.YtcmhjlflgedcdaaXP5
import Derived.RangeFuncNested
import Derived.RangeFuncBound
import Derived.RangeFuncCalls
import Derived.RangeFuncLeaves
import Derived.Shelf.Abstract
import Derived.Shelf.RegionOpen
import Derived.Sort.MapsRangeIn
import Derived.WalkKit
import Derived.OwnWalkIn
import Derived.TacticsInMore
import Derived.LoopNIn
import Derived.LoopIn
import Derived.Maps.AppendAt
import Derived.Carry
import Derived.Shelf.SlSortCmp.WholeK
import Derived.Shelf.SlSortCmp.NoneTotal
import Derived.Test.YtcmhjlflgedcdaaXP3
namespace Go.Proofs.Ytcmhjlflgedcdaa
open Go.RowKit
open Pl

theorem new_no (m : Int) (w : World) (h : m < 1 ∨ 256 < m) : Calls Try.prog 9 #[.int .i64 m] w fun e w' => e = .returned (.tuple #[.pointer none, .int .i64 1300]) ∧ w' = w := by
  by_cases h1 : m < 1
  · go_enter Try.func9, Try.ntmps9
    go_wp2
    go_ret2
    exact ⟨rfl, rfl⟩
  · have h1' : decide (m < 1) = false := by simpa using h1
    have h2 : 256 < m := by omega
    go_enter Try.func9, Try.ntmps9
    go_wp2
    go_ret2
    exact ⟨rfl, rfl⟩
theorem new_yes (m : Nat) (w : World) (h1 : 1 ≤ m) (h2 : m ≤ 256) : Calls Try.prog 9 #[.int .i64 (m : Int)] w fun e w' => ∃ gs, e = .returned (.tuple #[.pointer (some ⟨gs, 0, none⟩), .int .i64 0]) ∧ St w' gs m none [] ∧ w.heap.size ≤ gs ∧ Below w.heap.size w w' := by
  have h1' : decide ((m : Int) < 1) = false := by simp; omega
  have h2' : decide ((256 : Int) < (m : Int)) = false := by simp; omega
  go_enter Try.func9, Try.ntmps9
  go_wp2
  go_ret2
  exact ⟨_, rfl, ⟨Blk.new w _ _, h1, h2, Nat.zero_le _, .inl ⟨rfl, rfl⟩⟩, Nat.le_refl _, lay (Below.refl _ _) _⟩

/-- What Get tells. -/
def GetP (w : World) (L : List (En × Value)) (n : ByteArray) (t now : Int) (e : Ending) (w' : World) : Prop :=
  (lvB L (fdB n) t now = false ∧ e = .returned (.tuple #[.agg #[.string ⟨#[]⟩, .int .i64 0, .int .i64 0, .slice none 0 0], .int .i64 0, .int .i64 1301]) ∧ Below w.heap.size w w') ∨
  ∃ p g, atL L (fdB n) t = some p ∧ now < p.1.u ∧ e = .returned (.tuple #[.agg #[.string p.1.n, .int .i64 p.1.t, .int .i64 (wrap64 (p.1.u - now)), .slice (some ⟨g, 0, none⟩) p.1.ds.length p.1.ds.length], .int .i64 p.1.r, .int .i64 0]) ∧
    w'.ownsRow w.heap.size 9 1 (.slice (some ⟨g, 0, none⟩) p.1.ds.length p.1.ds.length) p.1.ds.length (tC p.1.ds) ∧ w.heap.size ≤ g ∧ Below w.heap.size w w'

set_option maxRecDepth 20000 in
set_option maxHeartbeats 4000000 in
theorem get_any {w : World} {gs most : Nat} {mb : Option Nat} {L : List (En × Value)} (h : St w gs most mb L) (hds : ∀ p ∈ L, 0 < p.1.ds.length) (n : ByteArray) (t now : Int) (hn : n.size ≤ maxLen) (ht : (Lit.int .i64 t).wf = true) :
    Calls Try.prog 18 #[.pointer (some ⟨gs, 0, none⟩), .string n, .int .i64 t, .int .i64 now] w (GetP w L n t now) := by
  have HST : Hid (St w gs most mb L) := h
  have hgd := h.at'.good
  have hb0 : Below w.heap.size w (w.alloc (.cells #[.string ⟨#[]⟩, .int .i64 0, .int .i64 0, .slice none 0 0] 34)) := lay (Below.refl _ _) _
  have k0 := Blk.new w #[.string ⟨#[]⟩, .int .i64 0, .int .i64 0, .slice none 0 0] 34
  have hfn : (fdB n).size ≤ maxLen := by
    have e := data_len (fdB n)
    rw [fdB_list] at e
    have h3 : (foldR n.data.toList).length ≤ n.data.toList.length := by
      unfold foldR
      split
      · rw [fold_len]; exact Nat.le_refl _
      · exact Nat.zero_le _
    have := data_len n
    omega
  have HLV0 : Hid (∀ u, St u gs most mb L → Calls Try.prog 33 #[.pointer (some ⟨gs, 0, none⟩), .agg #[.string (fdB n), .int .i64 t], .int .i64 now] u fun e w' => e = .returned (.tuple #[vL L (fdB n) t, .bool (lvB L (fdB n) t now)]) ∧ Below u.heap.size u w') := fun u hu => live_any hu (fdB n) t now hfn ht
  clear h
  cases ha : atL L (fdB n) t with
  | none =>
    have e1 : vL L (fdB n) t = eZ := by unfold vL; rw [ha]
    have e2 : lvB L (fdB n) t now = false := by unfold lvB bL; rw [ha]; rfl
    have HNO : Hid (lvB L (fdB n) t now = false) := e2
    have HLV : Hid (∀ u, St u gs most mb L → Calls Try.prog 33 #[.pointer (some ⟨gs, 0, none⟩), .agg #[.string (fdB n), .int .i64 t], .int .i64 now] u fun e w' => e = .returned (.tuple #[.agg #[.string ⟨#[]⟩, .int .i64 0, .int .i64 0, .slice none 0 0, .int .i64 0, .int .i64 0], .bool false]) ∧ Below u.heap.size u w') := fun u hu => by have := HLV0.out u hu; rw [e1, e2] at this; exact this
    clear HLV0 e1 e2 ha
    go_enter Try.func18, Try.ntmps18
    go_wp2_with (first | (go_at_call 32; go_must (refine (keyOf_any n t _ hn).mono ?_); rintro e w1 ⟨rfl, b1⟩; unfold kyV; have H1 := next hb0 b1; have k1 := k0.below b1) | (go_at_call 33; go_must (refine (HLV.out _ (HST.out.below H1)).mono ?_); rintro e w2 ⟨rfl, b2⟩; have H2 := next H1 b2; have k2 := k1.below b2; have H2' := lay H2 (.cells #[.string ⟨#[]⟩, .int .i64 0, .int .i64 0, .slice none 0 0, .int .i64 0, .int .i64 0] 36); have k2' := k2.alloc (.cells #[.string ⟨#[]⟩, .int .i64 0, .int .i64 0, .slice none 0 0, .int .i64 0, .int .i64 0] 36); have q2 := Blk.new w2 #[.string ⟨#[]⟩, .int .i64 0, .int .i64 0, .slice none 0 0, .int .i64 0, .int .i64 0] 36; have m0 := k2'.cell 0; have m1 := k2'.cell 1; have m2 := k2'.cell 2; have m3 := k2'.cell 3; have n0 := k2'.frozen 0; have n1 := k2'.frozen 1; have n2 := k2'.frozen 2; have n3 := k2'.frozen 3; simp only [List.getElem?_toArray, List.getElem?_cons_succ, List.getElem?_cons_zero] at m0 m1 m2 m3))
    obtain ⟨X, hX⟩ : ∃ X, X = ((((w2.alloc (.cells #[.string ⟨#[]⟩, .int .i64 0, .int .i64 0, .slice none 0 0, .int .i64 0, .int .i64 0] 36)).setCell ⟨w.heap.size, 0, none⟩ (.string ⟨#[]⟩)).setCell ⟨w.heap.size, 1, none⟩ (.int .i64 0)).setCell ⟨w.heap.size, 2, none⟩ (.int .i64 0)).setCell ⟨w.heap.size, 3, none⟩ (.slice none 0 0) := ⟨_, rfl⟩
    rw [← hX]
    have kX : Blk X w.heap.size #[.string ⟨#[]⟩, .int .i64 0, .int .i64 0, .slice none 0 0] 34 := by rw [hX]; exact (((k2'.set 0 _).set 1 _).set 2 _).set 3 _
    have hbX : Below w.heap.size w X := by rw [hX]; exact (((H2'.setCell (p := ⟨w.heap.size, 0, none⟩) (Nat.le_refl _) _).setCell (p := ⟨w.heap.size, 1, none⟩) (Nat.le_refl _) _).setCell (p := ⟨w.heap.size, 2, none⟩) (Nat.le_refl _) _).setCell (p := ⟨w.heap.size, 3, none⟩) (Nat.le_refl _) _
    exact bodyPost_ret (ret_s2 rfl rfl rfl rfl kX ⟨_, Try.underlying34⟩ (by kernel_rfl)) rfl (.inl ⟨HNO.out, rfl, hbX⟩)
  | some p =>
    have e1 : vL L (fdB n) t = eA p.1 p.2 := by unfold vL; rw [ha]
    obtain ⟨hpL, hp1, hp2⟩ := atL_some ha
    obtain ⟨qy, qc, hqd⟩ := row_shape (HST.out.at'.dat hpL)
    cases hlv : lvB L (fdB n) t now with
    | false =>
      have HNO : Hid (lvB L (fdB n) t now = false) := hlv
      have HLV : Hid (∀ u, St u gs most mb L → Calls Try.prog 33 #[.pointer (some ⟨gs, 0, none⟩), .agg #[.string (fdB n), .int .i64 t], .int .i64 now] u fun e w' => e = .returned (.tuple #[eA p.1 p.2, .bool false]) ∧ Below u.heap.size u w') := fun u hu => by have := HLV0.out u hu; rw [e1, hlv] at this; exact this
      clear HLV0 e1 hlv ha hpL hp1 hp2
      obtain ⟨⟨qn, qt, ql, qds, qr, qu⟩, qd⟩ := p
      simp only at hqd HLV
      generalize qds.length = qN at hqd
      subst hqd
      unfold eA at HLV
      go_enter Try.func18, Try.ntmps18
      go_wp2_with (first | (go_at_call 32; go_must (refine (keyOf_any n t _ hn).mono ?_); rintro e w1 ⟨rfl, b1⟩; unfold kyV; have H1 := next hb0 b1; have k1 := k0.below b1) | (go_at_call 33; go_must (refine (HLV.out _ (HST.out.below H1)).mono ?_); rintro e w2 ⟨rfl, b2⟩; have H2 := next H1 b2; have k2 := k1.below b2; have H2' := lay H2 (.cells #[.string qn, .int .i64 qt, .int .i64 ql, .slice qy qN qc, .int .i64 qr, .int .i64 qu] 36); have k2' := k2.alloc (.cells #[.string qn, .int .i64 qt, .int .i64 ql, .slice qy qN qc, .int .i64 qr, .int .i64 qu] 36); have q2 := Blk.new w2 #[.string qn, .int .i64 qt, .int .i64 ql, .slice qy qN qc, .int .i64 qr, .int .i64 qu] 36; have m0 := k2'.cell 0; have m1 := k2'.cell 1; have m2 := k2'.cell 2; have m3 := k2'.cell 3; have n0 := k2'.frozen 0; have n1 := k2'.frozen 1; have n2 := k2'.frozen 2; have n3 := k2'.frozen 3; simp only [List.getElem?_toArray, List.getElem?_cons_succ, List.getElem?_cons_zero] at m0 m1 m2 m3))
      obtain ⟨X, hX⟩ : ∃ X, X = ((((w2.alloc (.cells #[.string qn, .int .i64 qt, .int .i64 ql, .slice qy qN qc, .int .i64 qr, .int .i64 qu] 36)).setCell ⟨w.heap.size, 0, none⟩ (.string ⟨#[]⟩)).setCell ⟨w.heap.size, 1, none⟩ (.int .i64 0)).setCell ⟨w.heap.size, 2, none⟩ (.int .i64 0)).setCell ⟨w.heap.size, 3, none⟩ (.slice none 0 0) := ⟨_, rfl⟩
      rw [← hX]
      have kX : Blk X w.heap.size #[.string ⟨#[]⟩, .int .i64 0, .int .i64 0, .slice none 0 0] 34 := by rw [hX]; exact (((k2'.set 0 _).set 1 _).set 2 _).set 3 _
      have hbX : Below w.heap.size w X := by rw [hX]; exact (((H2'.setCell (p := ⟨w.heap.size, 0, none⟩) (Nat.le_refl _) _).setCell (p := ⟨w.heap.size, 1, none⟩) (Nat.le_refl _) _).setCell (p := ⟨w.heap.size, 2, none⟩) (Nat.le_refl _) _).setCell (p := ⟨w.heap.size, 3, none⟩) (Nat.le_refl _) _
      exact bodyPost_ret (ret_s2 rfl rfl rfl rfl kX ⟨_, Try.underlying34⟩ (by kernel_rfl)) rfl (.inl ⟨HNO.out, rfl, hbX⟩)
    | true =>
      have hlt : now < p.1.u := by
        have := hlv
        unfold lvB bL uL at this
        rw [ha] at this
        simpa using this
      have HLV : Hid (∀ u, St u gs most mb L → Calls Try.prog 33 #[.pointer (some ⟨gs, 0, none⟩), .agg #[.string (fdB n), .int .i64 t], .int .i64 now] u fun e w' => e = .returned (.tuple #[eA p.1 p.2, .bool true]) ∧ Below u.heap.size u w') := fun u hu => by have := HLV0.out u hu; rw [e1, hlv] at this; exact this
      have HCP : Hid (∀ u, Below w.heap.size w u → Calls Try.prog 38 #[.agg #[.string p.1.n, .int .i64 p.1.t, .int .i64 p.1.l, p.2]] u fun e w' => ∃ g, e = .returned (.agg #[.string p.1.n, .int .i64 p.1.t, .int .i64 p.1.l, .slice (some ⟨g, 0, none⟩) p.1.ds.length p.1.ds.length]) ∧ w'.ownsRow u.heap.size 9 1 (.slice (some ⟨g, 0, none⟩) p.1.ds.length p.1.ds.length) p.1.ds.length (tC p.1.ds) ∧ u.heap.size ≤ g ∧ Below u.heap.size u w') := fun u hu =>
        copyOf_any _ _ _ _ _ _ (by have := (hgd.ok p hpL).k.size; omega) (Row.of_own ((HST.out.below hu).at'.dat hpL)) (hds p hpL) (hgd.ok p hpL).len (hgd.ok p hpL).siz
      have HEND : Hid (∀ (e : Ending) (w' : World) g, e = .returned (.tuple #[.agg #[.string p.1.n, .int .i64 p.1.t, .int .i64 (wrap64 (p.1.u - now)), .slice (some ⟨g, 0, none⟩) p.1.ds.length p.1.ds.length], .int .i64 p.1.r, .int .i64 0]) →
        w'.ownsRow w.heap.size 9 1 (.slice (some ⟨g, 0, none⟩) p.1.ds.length p.1.ds.length) p.1.ds.length (tC p.1.ds) → w.heap.size ≤ g → Below w.heap.size w w' → GetP w L n t now e w') := fun e w' g h1 h2 h3 h4 => .inr ⟨p, g, ha, hlt, h1, h2, h3, h4⟩
      clear HLV0 e1 hlv ha hpL hp1 hp2 hlt hds
      obtain ⟨⟨qn, qt, ql, qds, qr, qu⟩, qd⟩ := p
      simp only at hqd HLV HCP HEND
      generalize qds.length = qN at hqd HCP HEND
      subst hqd
      unfold eA at HLV
      go_enter Try.func18, Try.ntmps18
      go_wp2_with (first | (go_at_call 32; go_must (refine (keyOf_any n t _ hn).mono ?_); rintro e w1 ⟨rfl, b1⟩; unfold kyV; have H1 := next hb0 b1; have k1 := k0.below b1) | (go_at_call 33; go_must (refine (HLV.out _ (HST.out.below H1)).mono ?_); rintro e w2 ⟨rfl, b2⟩; have H2 := next H1 b2; have k2 := k1.below b2; have H2' := lay H2 (.cells #[.string qn, .int .i64 qt, .int .i64 ql, .slice qy qN qc, .int .i64 qr, .int .i64 qu] 36); have k2' := k2.alloc (.cells #[.string qn, .int .i64 qt, .int .i64 ql, .slice qy qN qc, .int .i64 qr, .int .i64 qu] 36); have q2 := Blk.new w2 #[.string qn, .int .i64 qt, .int .i64 ql, .slice qy qN qc, .int .i64 qr, .int .i64 qu] 36) | (go_at_call 38; go_must (refine (HCP.out _ H2').mono ?_); rintro e w3 ⟨g, rfl, own3, hg3, b3⟩; have H3 := next H2' b3; have k3 := k2'.below b3; have q3 := q2.below b3; have x5 := (q3.alloc (.cells #[.string qn, .int .i64 qt, .int .i64 ql, .slice (some ⟨g, 0, none⟩) qN qN] 34)).cell 5; simp only [List.getElem?_toArray, List.getElem?_cons_succ, List.getElem?_cons_zero] at x5))
      obtain ⟨Z, hZ⟩ : ∃ Z, Z = (w3.alloc (.cells #[.string qn, .int .i64 qt, .int .i64 (wrap64 (qu - now)), .slice (some ⟨g, 0, none⟩) qN qN] 34)) := ⟨_, rfl⟩
      rw [← hZ]
      have pZ : Blk Z w3.heap.size #[.string qn, .int .i64 qt, .int .i64 (wrap64 (qu - now)), .slice (some ⟨g, 0, none⟩) qN qN] 34 := by rw [hZ]; exact Blk.new w3 _ _
      have kZ := k3.alloc (.cells #[.string qn, .int .i64 qt, .int .i64 (wrap64 (qu - now)), .slice (some ⟨g, 0, none⟩) qN qN] 34)
      have qZ := q3.alloc (.cells #[.string qn, .int .i64 qt, .int .i64 (wrap64 (qu - now)), .slice (some ⟨g, 0, none⟩) qN qN] 34)
      have oZ := own3.alloc (.cells #[.string qn, .int .i64 qt, .int .i64 (wrap64 (qu - now)), .slice (some ⟨g, 0, none⟩) qN qN] 34)
      have HZ := lay H3 (.cells #[.string qn, .int .i64 qt, .int .i64 (wrap64 (qu - now)), .slice (some ⟨g, 0, none⟩) qN qN] 34)
      rw [← hZ] at kZ qZ oZ HZ
      have h2s := H2.size
      have h2t := H2'.size
      clear hZ x5 k3 q3 own3 H3 b3
      have m0 := pZ.cell 0
      have m1 := pZ.cell 1
      have m2 := pZ.cell 2
      have m3 := pZ.cell 3
      have z0 := kZ.cell 0
      have z1 := kZ.cell 1
      have z2 := kZ.cell 2
      have z3 := kZ.cell 3
      have f0 := kZ.frozen 0
      have f1 := kZ.frozen 1
      have f2 := kZ.frozen 2
      have f3 := kZ.frozen 3
      have x4 := qZ.cell 4
      simp only [List.getElem?_toArray, List.getElem?_cons_succ, List.getElem?_cons_zero] at m0 m1 m2 m3 z0 z1 z2 z3 x4
      generalize wrap64 (qu - now) = tt at *
      go_region
      go_wp2
      have kX : Blk ((((Z.setCell ⟨w.heap.size, 0, none⟩ (.string qn)).setCell ⟨w.heap.size, 1, none⟩ (.int .i64 qt)).setCell ⟨w.heap.size, 2, none⟩ (.int .i64 tt)).setCell ⟨w.heap.size, 3, none⟩ (.slice (some ⟨g, 0, none⟩) qN qN)).drew w.heap.size #[.string qn, .int .i64 qt, .int .i64 tt, .slice (some ⟨g, 0, none⟩) qN qN] 34 := (((kZ.set 0 _).set 1 _).set 2 _).set 3 _
      have tX : Turn (fun k => k = w.heap.size) Z ((((Z.setCell ⟨w.heap.size, 0, none⟩ (.string qn)).setCell ⟨w.heap.size, 1, none⟩ (.int .i64 qt)).setCell ⟨w.heap.size, 2, none⟩ (.int .i64 tt)).setCell ⟨w.heap.size, 3, none⟩ (.slice (some ⟨g, 0, none⟩) qN qN)).drew := by
        have T : ∀ (x : World) (i : Nat) (v : Value), Turn (fun k => k = w.heap.size) x (x.setCell ⟨w.heap.size, i, none⟩ v) := fun x i v => Turn.of_set (S := fun k => k = w.heap.size) x (p := ⟨w.heap.size, i, none⟩) rfl v
        exact ((((T _ _ _).same (T _ _ _)).same (T _ _ _)).same (T _ _ _)).past (Below.refl _ _).drew
      refine bodyPost_ret (ret_s2 rfl rfl rfl rfl kX ⟨_, Try.underlying34⟩ (by kernel_rfl)) rfl (HEND.out _ _ g rfl (tX.row (own_base oZ (by omega)) (fun k hk e => by simp [Value.ownBlock] at hk; have := k2'.lt; omega)) (by omega) (tX.one_below HZ (Nat.le_refl _)))

end Go.Proofs.Ytcmhjlflgedcdaa

/- The keys of a map, collected: maps.Keys, slices.AppendSeq, slices.Collect. -/
namespace Go.Proofs.Ytcmhjlflgedcdaa
open Go.RowKit Go.Shelf
open Pl
attribute [local go_sem] Oper.semAt_some

/-- A name in its small letters, and a type. -/
abbrev Ky := { x : ByteArray × Int // OkK x.1 x.2 }
def kyC (x : Ky) : List Value := [.string x.1.1, .int .i64 x.1.2]
def kyE (x : Ky) : Array Value := #[.agg #[.string x.1.1, .int .i64 x.1.2]]
def keyP (p : En × Value) : ByteArray × Int := (p.1.n, p.1.t)
/-- What has come of the keys. -/
structure Col (L : List (En × Value)) (left : Lit → Bool) (ss : List Ky) : Prop where
  nd : (ss.map Subtype.val).Nodup
  mem : ∀ x : ByteArray × Int, x ∈ ss.map Subtype.val ↔ ∃ p ∈ L, keyP p = x ∧ left (kyL p.1.n p.1.t) = false
theorem col_start {D : DataW Hc} {L : List (En × Value)} (hm : MapOf D L) (hg : Good L) : Col L (Maps.has D) [] :=
  ⟨List.nodup_nil, fun x => ⟨fun h => by simp at h, fun ⟨p, hp, _, h⟩ => by
    rw [mapOf_has hm hg (max_ok (hg.ok p hp).k) (wf_ok (hg.ok p hp).k), List.any_eq_true.2 ⟨p, hp, sameK_iff.2 ⟨rfl, rfl⟩⟩] at h
    cases h⟩⟩
theorem col_step {L : List (En × Value)} (hg : Good L) {left : Lit → Bool} {ss : List Ky} (h : Col L left ss) {p : En × Value} (hp : p ∈ L) (hl : left (kyL p.1.n p.1.t) = true) (k : Ky) (hk : k.1 = keyP p) : Col L (nextL left p) (ss ++ [k]) := by
  refine ⟨?_, fun x => ?_⟩
  · rw [List.map_append, List.map_cons, List.map_nil]
    refine List.nodup_append.2 ⟨h.nd, by simp, fun a ha b hb => ?_⟩
    simp at hb
    subst hb
    obtain ⟨q, hq, hqk, hql⟩ := (h.mem a).1 ha
    intro e
    rw [hk, ← hqk] at e
    unfold keyP at e
    simp at e
    have := hg.one hp hq (sameK_iff.2 ⟨e.1, e.2⟩)
    rw [← this, hl] at hql
    cases hql
  · rw [List.map_append, List.mem_append, h.mem]
    constructor
    · rintro (⟨q, hq, e, hql⟩ | hx)
      · exact ⟨q, hq, e, by rw [nextL_at hg hp hq, hql]; rfl⟩
      · simp at hx
        exact ⟨p, hp, by rw [hx, hk], by rw [nextL_at hg hp hp, sameK_iff.2 ⟨rfl, rfl⟩]; simp⟩
    · rintro ⟨q, hq, e, hql⟩
      rw [nextL_at hg hp hq] at hql
      cases h2 : left (kyL q.1.n q.1.t) with
      | false => exact .inl ⟨q, hq, e, h2⟩
      | true =>
        rw [h2] at hql
        simp at hql
        have := hg.one hp hq hql
        subst this
        right
        simp
        rw [hk, e]
theorem keys_nodup {L : List (En × Value)} (hg : Good L) : (L.map keyP).Nodup := by
  have := hg.dis
  unfold Dis fstL at this
  rw [List.pairwise_map] at this
  refine List.pairwise_map.2 (this.imp (fun {a b} h e => ?_))
  unfold keyP at e
  simp at e
  rw [sameK_iff.2 ⟨e.1.symm, e.2.symm⟩] at h
  cases h
theorem col_end {L : List (En × Value)} (hg : Good L) {left : Lit → Bool} {ss : List Ky} (h : Col L left ss) (hl : ∀ kl, left kl = false) : (ss.map Subtype.val).Perm (L.map keyP) := by
  refine (List.perm_ext_iff_of_nodup h.nd (keys_nodup hg)).2 (fun x => ?_)
  rw [h.mem, List.mem_map]
  exact ⟨fun ⟨p, hp, e, _⟩ => ⟨p, hp, e⟩, fun ⟨p, hp, e⟩ => ⟨p, hp, e, hl _⟩⟩

set_option maxHeartbeats 1000000 in
/-- maps.Keys(m): the map is boxed. -/
theorem keys_in (n : Nat) (mb : Option Nat) (w : World) :
    CallsIn Fence.wide n Try.prog 40 #[.map mb] w fun e w' => e = .returned (.func (.func 50) #[] #[.pointer (some ⟨w.heap.size, 0, none⟩)]) ∧ w' = w.alloc (.cells #[.map mb] 66) := by
  refine callsIn_of_wp Try.func40 rfl trivial ?_ rfl
  simp only [Try.ntmps40, List.size_toArray, List.length_cons, List.length_nil, Nat.reduceAdd, Nat.reduceSub, Array.replicate_succ, Array.replicate_zero, List.push_toArray, List.append_toArray, List.nil_append, List.cons_append]
  gi_wp2
  go_ret
  exact ⟨rfl, rfl⟩

/-- A range over the map, inside a fence: one of its entries comes. -/
theorem wpListIn_next_e {F : Fence} {m : Nat} (w : World) {ops : Array Oper} {rest : List Oper} {o : Oper} {a : Act} {Q : Exit → Act → World → Prop} (hgd : o.guard = none) (it : Operand) (hop : o.op = Op.next it false) (b r n cnt : Nat) (D : DataW Hc) (left : Lit → Bool) (L : List (En × Value))
    (hit : a.eval it = .pointer (some ⟨r, 0, none⟩)) (h : w.ranges Try.prog 73 rE b r n D left cnt) (hm : MapOf D L) (hg : Good L)
    (hDone : cnt = 0 → (∀ kl, left kl = false) → wpListIn F m Try.prog ops Q rest (a.put o.dst (.tuple #[.bool false])) w)
    (hMore : ∀ (pe : En) (pd : Value) (w' : World) (cnt' : Nat), (pe, pd) ∈ L → left (kyL pe.n pe.t) = true → w'.ranges Try.prog 73 rE b r n D (fun x => left x && !x.sameKey (kyL pe.n pe.t)) cnt' → cnt' < cnt → w.grownBy w' (some r) → w'.heap.size = w.heap.size →
      (Instr.entry (.pointer (some ⟨r, 0, none⟩))).run Try.prog w' = .ok (.tuple #[kyV pe.n pe.t, eA pe pd]) w' → wpListIn F m Try.prog ops Q rest (a.put o.dst (.tuple #[.bool true, kyV pe.n pe.t, eA pe pd])) w') :
    wpListIn F m Try.prog ops Q (o :: rest) a w := by
  refine wpListIn_next_ranges w hgd it hop 73 keyE rE id id (fun key _ _ => ⟨key, rfl⟩) (fun v _ _ => ⟨v, rfl⟩) b r n D left cnt hit h hDone ?_
  intro x c kl y w' cnt' hkey hlk hv hat hrg hlt hgr hsz hen
  have hh := Maps.has_true_of_atKey hat
  obtain ⟨es, rfl, hp⟩ := hm
  have hh2 := hh
  rw [Maps.has_eq, any_perm hp, List.any_eq_true] at hh2
  obtain ⟨q, hq, hs⟩ := hh2
  obtain ⟨p, hpL, rfl⟩ := List.mem_map.1 hq
  have hkl : kyL p.1.n p.1.t = kl := WideAt.sameKey_eq hs
  subst hkl
  have hk2 := keyOf_e (max_ok (hg.ok p hpL).k) (wf_ok (hg.ok p hpL).k)
  have : x = kyV p.1.n p.1.t := keyE.inj hkey hk2
  subst this
  have ha := mapOf_at (L := L) ⟨es, rfl, hp⟩ hg hpL (.nil)
  rw [hat] at ha
  obtain ⟨c', hc1, hc2⟩ := rE_inv hv
  have : c' = hc p := by
    have := congrArg Prod.fst hc2
    rw [ha] at this
    cases this
    rfl
  subst this
  have : c = eA p.1 p.2 := hc1
  subst this
  exact hMore p.1 p.2 w' cnt' hpL hlk hrg hlt hgr hsz hen

end Go.Proofs.Ytcmhjlflgedcdaa

/- What maps.Keys' iterator gives; slices.AppendSeq, slices.Collect. -/
namespace Go.Proofs.Ytcmhjlflgedcdaa
open Go.RowKit Go.Shelf
open Pl
attribute [local go_sem] Oper.semAt_some

set_option maxRecDepth 100000 in
set_option maxHeartbeats 1000000 in
/-- The iterator of maps.Keys: each key comes once, in some order, or a round says 'no more'. -/
theorem keys1_in (n : Nat) (hn : 1 ≤ n) (l Bm b : Nat) (L : List (En × Value)) (J Jx : List Ky → World → Prop)
    (hY : ∀ pre x W, J pre W → pre.length < L.length → YieldAt Fence.wide (n - 1) Try.prog l (kyE x) W fun e W' => (e = .returned (.bool true) ∧ J (pre ++ [x]) W' ∧ KeepsWalks W W') ∨ (e = .returned (.bool false) ∧ Jx (pre ++ [x]) W'))
    (W : World) (hJ : AbidesFrom W.heap.size J) (hm : W.cell? ⟨Bm, 0, none⟩ = some (.map (some b))) (hold : Hold W b L) (h0 : J [] W) :
    CallsIn Fence.wide n Try.prog 50 #[.func (.yield l) #[] #[], .pointer (some ⟨Bm, 0, none⟩)] W fun e W' => (∃ v, e = .returned v) ∧ ((∃ ss : List Ky, (ss.map Subtype.val).Perm (L.map keyP) ∧ J ss W') ∨ (∃ pre : List Ky, True ∧ Jx pre W')) := by
  obtain ⟨D0, hown, hmo⟩ := hold.own
  have hg := hold.good
  refine callsIn_of_wp Try.func50 rfl trivial ?_ rfl
  simp only [Try.ntmps50, List.size_toArray, List.length_cons, List.length_nil, Nat.reduceAdd, Nat.reduceSub, Array.replicate_succ, Array.replicate_zero, List.push_toArray, List.append_toArray, List.nil_append, List.cons_append]
  clear hold
  gi_wp2_with (first
    | (gi_at_range; refine wpListIn_range_own _ rfl _ 66 rfl 73 36 keyE Try.underlying66 _ b L.length _ rfl hown ?_; intro w0 hrg0 hg0 hs0)
    | gi_in)
  go_frame
  gi_loopw [6] (fun _ wr => ∃ (left : Lit → Bool) (cnt : Nat) (ss : List Ky), wr.ranges Try.prog 73 rE b W.heap.size L.length D0 left cnt ∧ ss.length + cnt ≤ L.length ∧ Col L left ss ∧ J ss wr)
    (fun _ wr => wr.rangeLeft b W.heap.size)
  case atStart =>
    exact ⟨_, _, [], hrg0, by rw [mapOf_size hmo]; simp, col_start hmo hg, hJ [] W w0 none h0 hg0 (fun r e => by cases e)⟩
  case round =>
    obtain ⟨left, cnt, ss, hrg, hcs, hC, hJs⟩ := hrel
    gi_wp2_with (first
      | (gi_at_next; refine wpListIn_next_e _ rfl (.tmp 5) rfl b W.heap.size L.length cnt D0 left L rfl hrg hmo hg ?_ ?_)
      | gi_in)
    · intro hc0 hl0
      gi_wp2
      go_end0
      exact ⟨⟨_, rfl⟩, .inl ⟨ss, col_end hg hC hl0, hJs⟩⟩
    · intro pe pd w2 cnt2 hpL hlk hrg2 hlt hg2 hs2 hen
      have hok := (hg.ok _ hpL).k
      have hJ2 : J ss w2 := hJ ss wr w2 (some W.heap.size) hJs hg2 (fun r e => by cases e; exact ⟨Nat.le_refl _, hrg.iter_walk⟩)
      have hJ3 : J ss (w2.alloc (.cells #[.string pe.n, .int .i64 pe.t] 73)) := hJ ss w2 _ none hJ2 (World.grownBy_alloc w2 _ none) (fun r e => by cases e)
      have hY2 := hY ss ⟨(pe.n, pe.t), hok⟩ _ hJ3 (by omega)
      unfold kyE at hY2
      obtain ⟨fn, tmps, assign, body, hy, hR⟩ := hY2
      have hC2 := col_step hg hC hpL hlk ⟨(pe.n, pe.t), hok⟩ rfl
      have hrg3 := hrg2.alloc (.cells #[.string pe.n, .int .i64 pe.t] 73)
      clear hs2
      unfold kyV eA at hen ⊢
      obtain ⟨pn, pt, pl, pds, pr, pu⟩ := pe
      simp only at hen hy hR hC2 hrg3 ⊢
      gi_wp2
      refine hR.mono ?_
      rintro e W3 (⟨rfl, hJ4, hk3⟩ | ⟨rfl, hJx3⟩)
      · gi_wp2
        have hrg4 := hrg3.of_walks hk3
        go_roundw
        case rel => exact ⟨_, cnt2, _, hrg4, by simp; omega, hC2, hJ4⟩
        case measure => rw [hrg4.left_eq, hrg.left_eq]; exact hlt
      · gi_wp2
        refine bodyPost_ret (results_none rfl _ _ _) rfl ?_
        exact ⟨⟨_, rfl⟩, .inr ⟨_, trivial, hJx3⟩⟩

theorem keys_stops (n : Nat) (hn : 1 ≤ n) (Bm b : Nat) (L : List (En × Value)) (w : World) (hBm : Bm < w.heap.size) (hm : w.cell? ⟨Bm, 0, none⟩ = some (.map (some b))) (hold : Hold w b L) :
    SeqStopsK Fence.wide n Try.prog 50 #[.pointer (some ⟨Bm, 0, none⟩)] kyE KeepsWalks (fun ss : List Ky => (ss.map Subtype.val).Perm (L.map keyP)) (fun _ => True) L.length w := fun l J Jx W hW hJ _ hY h0 =>
  keys1_in n hn l Bm b L J Jx hY W hJ ((hW.cell (p := ⟨Bm, 0, none⟩) hBm).trans hm) (hold.turn (Turn.of_below (S := fun _ => False) hW) id (fun _ _ _ _ => id)) h0
set_option maxRecDepth 100000 in
set_option maxHeartbeats 1000000 in
theorem keys1_nil (n : Nat) (l Bm : Nat) (J Jx : List Ky → World → Prop) (W : World) (hJ : AbidesFrom W.heap.size J) (hm : W.cell? ⟨Bm, 0, none⟩ = some (.map none)) (h0 : J [] W) :
    CallsIn Fence.wide n Try.prog 50 #[.func (.yield l) #[] #[], .pointer (some ⟨Bm, 0, none⟩)] W fun e W' => (∃ v, e = .returned v) ∧ ((∃ ss : List Ky, (ss.map Subtype.val).Perm (([] : List (En × Value)).map keyP) ∧ J ss W') ∨ (∃ pre : List Ky, True ∧ Jx pre W')) := by
  refine callsIn_of_wp Try.func50 rfl trivial ?_ rfl
  simp only [Try.ntmps50, List.size_toArray, List.length_cons, List.length_nil, Nat.reduceAdd, Nat.reduceSub, Array.replicate_succ, Array.replicate_zero, List.push_toArray, List.append_toArray, List.nil_append, List.cons_append]
  have hrg := run_range_nilMap (P := Try.prog) W 66 73 36 Try.underlying66
  have hnx : ∀ ty, (Instr.next (.pointer (some ⟨W.heap.size, 0, none⟩)) false ty).run Try.prog (W.alloc (.mapIter none 0 #[] 0)) = _ := fun ty => run_next_nilMap _ ty 0 0 #[]
  gi_wp2
  refine wpIn_loop_rounds 1 ?_
  rw [roundsIn_succ]
  gi_wp2
  go_end0
  exact ⟨⟨_, rfl⟩, .inl ⟨[], List.Perm.refl _, hJ [] W _ none h0 (World.grownBy_alloc W _ none) (fun r e => by cases e)⟩⟩

theorem infoK : (Try.prog.info? 73).map (fun i => (i.zero, i.size, i.bytes)) = some (some (.agg #[.string ⟨#[]⟩, .int .i64 0]), 2, 24) := by kernel_rfl
theorem cell_key (w : World) (a b : Value) (t : TypeId) : ∀ j u, [a, b][j]? = some u → (w.alloc (.cells #[a, b] t)).cell? ((⟨w.heap.size, 0, none⟩ : Addr).add j) = some u := by
  intro j u hj
  have hadd : (⟨w.heap.size, 0, none⟩ : Addr).add j = ⟨w.heap.size, j, none⟩ := by unfold Addr.add; split <;> simp_all
  rw [hadd, (Blk.new w #[a, b] t).cell j]
  simpa using hj

def kyF (ss : List Ky) : List Value := ss.flatMap kyC
theorem kyF_len (ss : List Ky) : (kyF ss).length = ss.length * 2 := flat_len (f := kyC) (z := 2) (fun _ => rfl) ss
set_option maxRecDepth 100000 in
set_option maxHeartbeats 2000000 in
/-- slices.AppendSeq(nil, seq). -/
theorem appendSeq_in (n : Nat) (hn : 2 ≤ n) (g : Nat) (lb : Array Value) (eg : ∀ args w, (callFunc g args).run Try.prog w = .ok (.enter g args) w) (S : List Ky → Prop) (N : Nat) (hN : N ≤ 1000) (w : World) (hseq : SeqStopsK Fence.wide (n - 1) Try.prog g lb kyE KeepsWalks S (fun _ => True) N w) :
    CallsIn Fence.wide n Try.prog 56 #[.slice none 0 0, .func (.func g) #[] lb] w fun e w' => ∃ (v : Value) (ss : List Ky), e = .returned v ∧ S ss ∧ w'.ownsRow w.heap.size 73 2 v ss.length (kyF ss) ∧ (v = .slice none 0 0 ↔ ss = []) ∧ Below w.heap.size w w' := by
  obtain ⟨i0, hi, hz0, hz1, hz2⟩ := info_parts infoK
  refine callsIn_of_wp_marks Try.func56 rfl trivial ?_ rfl
  simp only [Try.ntmps56, List.size_toArray, List.length_cons, List.length_nil, Nat.reduceAdd, Nat.reduceSub, Array.replicate_succ, Array.replicate_zero, List.push_toArray, List.append_toArray, List.nil_append, List.cons_append]
  gi_wp2
  have hb0 : Below w.heap.size w (w.alloc (.cells #[.slice none 0 0] 81)) := lay (Below.refl _ _) _
  refine wpIn_rangeFunc_ownH rfl (by omega) (gf := g) (lb := lb) rfl trivial eg hseq walksK_t walksK_b hb0 (fun _ => rfl)
    (fun pre W => (∃ v, Boxed W w.heap.size 81 v ∧ W.ownsRow w.heap.size 73 2 v pre.length (kyF pre) ∧ (v = .slice none 0 0 ↔ pre = [])) ∧ Below w.heap.size w W) (fun _ _ _ => False)
    (OwnFrom.and (Own.from (holdsRow_own w.heap.size w.heap.size 81 73 2 (fun pre : List Ky => pre.length) (fun pre => kyF pre) (fun pre v => v = .slice none 0 0 ↔ pre = [])) _) (ownFrom_below (Nat.le_refl _) (by simp)))
    (fun _ _ _ _ _ h _ _ => h.elim) ⟨⟨_, Boxed.new w _ _, World.ownsRow_nil _ _ _ _, by simp⟩, hb0⟩
    (fun x a' W => ∃ Bx, w.heap.size < Bx ∧ Blk W Bx #[.string x.1.1, .int .i64 x.1.2] 73 ∧ a' = { tmps := #[.slice none 0 0, .func (.func g) #[] lb, .pointer (some ⟨w.heap.size, 0, none⟩), undef, .slice none 0 0, .pointer (some ⟨Bx, 0, none⟩), .func (.func g) #[] lb, .agg #[.string x.1.1, .int .i64 x.1.2], undef, undef, undef, undef, undef], defers := [] })
    (fun x a' _ X Y row => ?_) ?_ ?_ ?_ ?_
  · rintro ⟨Bx, h1, h2, h3⟩ hg hrow
    refine ⟨Bx, h1, h2.grown hg (fun e => ?_), h3⟩
    obtain ⟨_, o, ho, hc⟩ := hrow Bx e.symm
    have h2' : X.heap[Bx]? = some (.cells #[.string x.1.1, .int .i64 x.1.2] 73 (0, 0)) := h2
    rw [h2'] at ho; cases ho; cases hc
  · rintro l pre x W K ⟨⟨v, hv, hrow, hnil⟩, hB⟩ hK
    unfold kyE
    gi_wp2
    exact hK _ _ ((KeepsOthers.alloc _ _).from _) (KeepsWalks.alloc _ _) ⟨⟨v, hv.alloc _, hrow.alloc _, hnil⟩, lay hB _⟩ ⟨W.heap.size, hv.lt, Blk.new W _ _, rfl⟩
  · rintro l pre x a' W hl ⟨r, hr⟩ ⟨⟨v, hv, hrow, hnil⟩, hB⟩ ⟨Bx, hBx, bX, rfl⟩ hlt
    have hc := hv.cell
    have d0 := bX.cell 0
    have d1 := bX.cell 1
    simp only [List.getElem?_toArray, List.getElem?_cons_succ, List.getElem?_cons_zero] at d0 d1
    gi_wp2_with (gi_at_builtin; refine wpListIn_append_own _ rfl (.tmp 8) (.tmp 10) 81 rfl w.heap.size 73 i0 _ 2 24 Try.underlying81 hi hz0 hz1 hz2 rfl (by decide) v pre.length (kyF pre) rfl (hrow.alloc _) ⟨W.heap.size, 0, none⟩ 1 1 (kyC x) rfl rfl (cell_key _ _ _ _) (by unfold kyC; simp [Value.oneCell']) (by unfold maxLen; omega) (by omega) (by have := hB.size; simp; omega) ?_; intro v' w1 hown' hgrow _; obtain ⟨g', cap', rfl⟩ := ownsRow_succ hown'; obtain ⟨hv1, hv2, hr2, hk2, hb2⟩ := hv.appended (by decide) hrow hB.size (Nat.le_refl _) hown' hgrow; have hc1 := hv1.cell; have hf1 := hv1.frozen)
    refine ⟨hk2.from _, ⟨hk2.size, fun k o h ho => hk2.same k o h (by cases o <;> simp_all [Obj.isWalk, Obj.isCells])⟩, ⟨⟨_, hv2, ?_, by simp⟩, hB.trans hb2⟩⟩
    rw [List.length_append, List.length_singleton]
    have e : kyF (pre ++ [x]) = kyF pre ++ kyC x := by unfold kyF; simp
    rw [e]
    exact hr2
  · rintro D xs W hD hS ⟨⟨v, hv, hrow, hnil⟩, hB⟩ hK
    have hc := hv.cell
    gi_wp2
    refine ⟨by simp, .inl ⟨_, _, rfl, run_takeDeferred hK, ?_⟩⟩
    exact ⟨_, results_tmp rfl _ _ _, v, xs, rfl, hS, ownsRow_putObj hrow _ hK rfl, hnil, hB.trans (belowK_b (w := w) (Nat.le_refl _) W D _ _ (by simp at hD; omega) hK rfl rfl)⟩
  · rintro D c pre W hD _ hF
    exact hF.elim

end Go.Proofs.Ytcmhjlflgedcdaa

/- slices.Collect, slices.SortFunc, slices.SortedFunc over the keys of a map. -/
namespace Go.Proofs.Ytcmhjlflgedcdaa
open Go.RowKit Go.Shelf Go.Sort
open Pl
attribute [local go_sem] Oper.semAt_some

/-- The numbers of slices.SortFunc and what it calls, at the map's keys. -/
def renK : Ren := ⟨fun | 6 => 49 | 15 => 58 | 14 => 57 | 28 => 73 | 29 => 74 | 20 => 65 | 21 => 66 | 22 => 67 | 23 => 68 | 24 => 69 | 25 => 70 | 26 => 71 | 27 => 72 | 46 => 76 | 47 => 77 | 48 => 78 | 49 => 79 | 50 => 80 | 57 => 82 | n => n, fun | 22 => 81 | 24 => 73 | 25 => 86 | 3 => 3 | 39 => 54 | 0 => 0 | 53 => 115 | 55 => 117 | 4 => 4 | 46 => 109 | 45 => 108 | 50 => 94 | 5 => 5 | 9 => 9 | 66 => 120 | 70 => 124 | 76 => 127 | 77 => 128 | n => n, fun n => n⟩
theorem laysK : SlLaysF0.n6 Try.prog renK :=
  { mixed := by kernel_rfl
    f6 := ⟨Try.f49.name, by decide, Try.func49.trans (congrArg some (by kernel_rfl))⟩
    f14 := ⟨Try.f57.name, by decide, Try.func57.trans (congrArg some (by kernel_rfl))⟩
    f15 := Try.func58.trans (congrArg some (by kernel_rfl))
    f20 := ⟨Try.f65.name, by decide, Try.func65.trans (congrArg some (by kernel_rfl))⟩
    f21 := ⟨Try.f66.name, by decide, Try.func66.trans (congrArg some (by kernel_rfl))⟩
    f22 := ⟨Try.f67.name, by decide, Try.func67.trans (congrArg some (by kernel_rfl))⟩
    f23 := ⟨Try.f68.name, by decide, Try.func68.trans (congrArg some (by kernel_rfl))⟩
    f24 := ⟨Try.f69.name, by decide, Try.func69.trans (congrArg some (by kernel_rfl))⟩
    f25 := ⟨Try.f70.name, by decide, Try.func70.trans (congrArg some (by kernel_rfl))⟩
    f26 := ⟨Try.f71.name, by decide, Try.func71.trans (congrArg some (by kernel_rfl))⟩
    f27 := ⟨Try.f72.name, by decide, Try.func72.trans (congrArg some (by kernel_rfl))⟩
    f28 := Try.func73.trans (congrArg some (by kernel_rfl))
    f29 := Try.func74.trans (congrArg some (by kernel_rfl))
    f46 := ⟨Try.f76.name, by decide, Try.func76.trans (congrArg some (by kernel_rfl))⟩
    f47 := Try.func77.trans (congrArg some (by kernel_rfl))
    f48 := Try.func78.trans (congrArg some (by kernel_rfl))
    f49 := ⟨Try.f79.name, by decide, Try.func79.trans (congrArg some (by kernel_rfl))⟩
    f50 := ⟨Try.f80.name, by decide, Try.func80.trans (congrArg some (by kernel_rfl))⟩
    f57 := ⟨Try.f82.name, by decide, Try.func82.trans (congrArg some (by kernel_rfl))⟩
    t0 := Try.underlying0
    a0 := Try.isAgg0
    z0 := Try.sizeOf0
    v0 := Try.zeroValue0
    t3 := Try.underlying3
    a3 := Try.isAgg3
    z3 := Try.sizeOf3
    v3 := Try.zeroValue3
    t4 := Try.underlying4
    a4 := Try.isAgg4
    z4 := Try.sizeOf4
    v4 := Try.zeroValue4
    t5 := Try.underlying5
    a5 := Try.isAgg5
    z5 := Try.sizeOf5
    v5 := Try.zeroValue5
    t9 := Try.underlying9
    a9 := Try.isAgg9
    z9 := Try.sizeOf9
    v9 := Try.zeroValue9
    t22 := Try.underlying81
    a22 := Try.isAgg81
    z22 := Try.sizeOf81
    v22 := Try.zeroValue81
    t25 := Try.underlying86
    a25 := Try.isAgg86
    z25 := Try.sizeOf86
    v25 := Try.zeroValue86
    t39 := Try.underlying54
    a39 := Try.isAgg54
    z39 := Try.sizeOf54
    v39 := Try.zeroValue54
    t45 := Try.underlying108
    a45 := Try.isAgg108
    z45 := Try.sizeOf108
    v45 := Try.zeroValue108
    t46 := Try.underlying109
    a46 := Try.isAgg109
    z46 := Try.sizeOf109
    v46 := Try.zeroValue109
    t50 := Try.underlying94
    a50 := Try.isAgg94
    z50 := Try.sizeOf94
    v50 := Try.zeroValue94
    t53 := Try.underlying115
    a53 := Try.isAgg115
    z53 := Try.sizeOf115
    v53 := Try.zeroValue115
    t55 := Try.underlying117
    a55 := Try.isAgg117
    z55 := Try.sizeOf117
    v55 := Try.zeroValue117
    t66 := Try.underlying120
    a66 := Try.isAgg120
    z66 := Try.sizeOf120
    v66 := Try.zeroValue120
    t70 := Try.underlying124
    a70 := Try.isAgg124
    z70 := Try.sizeOf124
    v70 := Try.zeroValue124
    t76 := Try.underlying127
    a76 := Try.isAgg127
    z76 := Try.sizeOf127
    v76 := Try.zeroValue127
    t77 := Try.underlying128
    a77 := Try.isAgg128
    z77 := Try.sizeOf128
    v77 := Try.zeroValue128 }

theorem agg_key (w : World) : (isAgg 73).run Try.prog w = .ok true w := by kernel_rfl
theorem size_key (w : World) : (Go.sizeOf 73).run Try.prog w = .ok 2 w := by kernel_rfl
def cfK (x y : Ky) : Int := cK x.1.1 x.1.2 y.1.1 y.1.2
theorem lt_cf (x y : Ky) : ltOf cfK x y = decide (cK x.1.1 x.1.2 y.1.1 y.1.2 < 0) := rfl
theorem swoK : SWO (ltOf cfK) where
  irrefl x := by rw [lt_cf, cK_self]; rfl
  trans x y z h1 h2 := by rw [lt_cf] at *; simp only [decide_eq_true_eq] at *; exact cK_trans h1 h2
  ntrans x y z h1 h2 := by
    rw [lt_cf] at *
    simp only [decide_eq_false_iff_not] at *
    intro h3
    have a1 := cK_anti x.1.1 x.1.2 y.1.1 y.1.2
    have a2 := cK_anti y.1.1 y.1.2 z.1.1 z.1.2
    by_cases e1 : cK x.1.1 x.1.2 y.1.1 y.1.2 = 0
    · obtain ⟨e2, e3⟩ := cK_zero x.2 y.2 e1
      rw [e2, e3] at h3
      exact h2 h3
    · have h4 : cK y.1.1 y.1.2 x.1.1 x.1.2 < 0 := by omega
      exact h2 (cK_trans h4 h3)
theorem totK (x y : Ky) (h1 : ltOf cfK x y = false) (h2 : ltOf cfK y x = false) : x = y := by
  rw [lt_cf] at *
  simp only [decide_eq_false_iff_not] at *
  have a1 := cK_anti x.1.1 x.1.2 y.1.1 y.1.2
  have := cK_zero x.2 y.2 (by omega)
  exact Subtype.ext (Prod.ext this.1 this.2)

/-- What lays new blocks alone is a growth. -/
theorem below_grow {w w' : World} (h : Below w.heap.size w w') (hd : w.drawn ≤ w'.drawn) : ∃ q os, w' = grow (w.drewN q) os := by
  refine ⟨w'.drawn - w.drawn, w'.heap.extract w.heap.size w'.heap.size, ?_⟩
  have e1 : w.heap ++ w'.heap.extract w.heap.size w'.heap.size = w'.heap := by
    apply Array.ext_getElem?
    intro i
    by_cases hi : i < w.heap.size
    · rw [Array.getElem?_append_left hi]
      exact (h.block i hi).symm
    · rw [Array.getElem?_append_right (by omega), Array.getElem?_extract]
      have := h.size
      by_cases hj : i < w'.heap.size
      · rw [if_pos (by omega)]
        congr 1; omega
      · rw [if_neg (by omega), Array.getElem?_eq_none (by omega)]
  have e2 : w.drawn + (w'.drawn - w.drawn) = w'.drawn := by omega
  unfold grow World.drewN
  simp only [e1, e2]
  cases w'
  have h1 := h.os
  have h2 := h.tape
  have h3 := h.output
  simp only at h1 h2 h3
  rw [h1, h2, h3]
theorem cmpK [Inhabited Ky] (blk off size : Nat) (w : World) : CmpLays Try.prog 41 #[] kyC 2 cfK blk off size w := fun m os dk _ x y => by
  refine (order_d x.1.1 y.1.1 x.1.2 y.1.2 (sortWorldK kyC 2 w blk off m dk os) (max_ok x.2) (max_ok y.2)).mono ?_
  rintro e w' ⟨he, hb, hd⟩
  exact ⟨he, below_grow hb hd⟩
theorem flat_list [Inhabited Ky] (ss : List Ky) : (flatK kyC 2 ss.toArray).toList = kyF ss := by
  apply List.ext_getElem?
  intro j
  by_cases hj : j < ss.length * 2
  · have h1 : j < (flatK kyC 2 ss.toArray).size := by simpa using hj
    rw [Array.getElem?_toList, Array.getElem?_eq_getElem h1]
    have h2 := get_flatK kyC 2 ss.toArray j (by simpa using hj)
    rw [getElem!_pos (flatK kyC 2 ss.toArray) j h1] at h2
    rw [h2]
    have h3 := flat_get (f := kyC) (z := 2) (fun _ => rfl) ss (j / 2) (by omega) (j % 2) (Nat.mod_lt _ (by decide))
    rw [show j / 2 * 2 + j % 2 = j from by omega] at h3
    unfold kyF
    rw [h3]
    have h4 : ss.toArray[j / 2]! = ss[j / 2]'(by omega) := by rw [getElem!_pos ss.toArray (j / 2) (by simp; omega)]; simp
    rw [h4]
    have h5 : j % 2 = 0 ∨ j % 2 = 1 := by omega
    rcases h5 with e | e <;> rw [e] <;> rfl
  · rw [List.getElem?_eq_none (by rw [Array.length_toList]; simp; omega), List.getElem?_eq_none (by rw [kyF_len]; omega)]
theorem holds_key {w : World} {g : Nat} {cur : Array Value} {e : TypeId} {ss : List Ky} [Inhabited Ky] (hb : w.heap[g]? = some (.cells cur e (0, 0))) (ht : cur.toList.take (ss.length * 2) = kyF ss) : HoldsK kyC 2 w g 0 ss.toArray := by
  intro j hj
  have hj' : j < ss.length * 2 := by simpa using hj
  refine ⟨?_, by simp [World.frozen?, hb]⟩
  have h1 : (cur.toList.take (ss.length * 2))[j]? = (kyF ss)[j]? := by rw [ht]
  rw [List.getElem?_take_of_lt hj', ← flat_list ss, Array.getElem?_toList, Array.getElem?_toList] at h1
  simp only [World.cell?, hb, Nat.zero_add]
  rw [Array.getElem?_eq_getElem hj] at h1
  simp only [Option.isSome_none, Bool.false_eq_true, if_false]
  rw [h1, getElem!_pos (flatK kyC 2 ss.toArray) j hj]
  rfl
theorem heap_key {w : World} {g n : Nat} {os : Array Obj} {cur : Array Value} {e : TypeId} {fr : Nat × Nat} (d : Array Value) (hb : w.heap[g]? = some (.cells cur e fr)) :
    (grow (putRow id (Sort.ahead w n) g 0 d) os).heap[g]? = some (.cells (putCells id 0 d cur) e fr) := by
  have hg : g < w.heap.size := (Array.getElem?_eq_some_iff.1 hb).1
  rw [heap_grow_old _ _ (by simpa using hg)]
  simp [putRow, mapBlock, Sort.ahead, Array.getElem?_modify, hb, onCells]
theorem grown_key {w : World} {g n : Nat} {os : Array Obj} (d : Array Value) : w.grownBy (grow (putRow id (Sort.ahead w n) g 0 d) os) (some g) := by
  refine ⟨rfl, rfl, rfl, by simp, fun k hk hne => ?_⟩
  rw [heap_grow_old _ _ (by simpa using hk)]
  have : g ≠ k := fun e => hne (by rw [e])
  simp [putRow, mapBlock, Sort.ahead, Array.getElem?_modify, this]
theorem take_key (cur : Array Value) (ts : List Value) (h : ts.length ≤ cur.size) : (putCells id 0 ts.toArray cur).toList.take ts.length = ts := by
  apply List.ext_getElem?
  intro j
  by_cases hj : j < ts.length
  · rw [List.getElem?_take_of_lt hj, Array.getElem?_toList]
    simp [putCells, hj, show j < cur.size by omega]
  · rw [List.getElem?_take_eq_none (by omega), List.getElem?_eq_none (by omega)]
theorem own_sorted {w : World} {base g cap n : Nat} {e : TypeId} {os : Array Obj} {cur : Array Value} {ss ts : List Ky} [Inhabited Ky] (hl : ts.length = ss.length) (hbase : base ≤ g) (hb : w.heap[g]? = some (.cells cur e (0, 0))) (h1 : ss.length ≤ cap) (h2 : cap ≤ maxLen) (h3 : cur.size = cap * 2) :
    (sortWorldK kyC 2 w g 0 n ts.toArray os).ownsRow base e 2 (.slice (some ⟨g, 0, none⟩) ss.length cap) ss.length (kyF ts) := by
  unfold sortWorldK putRowK
  have e1 : flatK kyC 2 ts.toArray = (kyF ts).toArray := by rw [← flat_list ts]
  rw [e1]
  refine ⟨by rw [kyF_len, hl], .inr ⟨g, cap, _, rfl, hbase, heap_key _ hb, h1, h2, by simp [putCells, h3], ?_⟩⟩
  have := take_key cur (kyF ts) (by rw [kyF_len, h3, hl]; omega)
  rw [kyF_len, hl] at this
  exact this

set_option maxHeartbeats 1000000 in
/-- slices.Collect(seq). -/
theorem collect_in (n : Nat) (hn : 3 ≤ n) (g : Nat) (lb : Array Value) (eg : ∀ args w, (callFunc g args).run Try.prog w = .ok (.enter g args) w) (S : List Ky → Prop) (N : Nat) (hN : N ≤ 1000) (w : World) (hseq : SeqStopsK Fence.wide (n - 1 - 1) Try.prog g lb kyE KeepsWalks S (fun _ => True) N w) :
    CallsIn Fence.wide n Try.prog 48 #[.func (.func g) #[] lb] w fun e w' => ∃ (v : Value) (ss : List Ky), e = .returned v ∧ S ss ∧ w'.ownsRow w.heap.size 73 2 v ss.length (kyF ss) ∧ (v = .slice none 0 0 ↔ ss = []) ∧ Below w.heap.size w w' := by
  have h1 : 1 ≤ n := by omega
  have hf : Fence.wide.fn 56 := trivial
  refine callsIn_of_wp Try.func48 rfl trivial ?_ rfl
  simp only [Try.ntmps48, List.size_toArray, List.length_cons, List.length_nil, Nat.reduceAdd, Nat.reduceSub, Array.replicate_succ, Array.replicate_zero, List.push_toArray, List.append_toArray, List.nil_append, List.cons_append]
  gi_wp2_with (gi_at_call 56; refine (appendSeq_in (n - 1) (by omega) g lb eg S N hN _ hseq).mono ?_; rintro e w' ⟨v, ss, rfl, hS, hrow, hnil, hb⟩)
  go_ret
  exact ⟨v, ss, rfl, hS, hrow, hnil, hb⟩

/-- The keys in their row. -/
def srtK (ss : List Ky) : List Ky := ss.mergeSort fun x y => !ltOf cfK y x
theorem srt_perm (ss : List Ky) : (srtK ss).Perm ss := List.mergeSort_perm _ _
theorem srt_rise {ss : List Ky} (hn : ss.Nodup) : (srtK ss).Pairwise (fun x y => cfK x y < 0) := by
  have tr : ∀ a b c : Ky, (!ltOf cfK b a) = true → (!ltOf cfK c b) = true → (!ltOf cfK c a) = true := fun a b c h1 h2 => by
    simp only [Bool.not_eq_true'] at *
    exact swoK.ntrans _ _ _ h2 h1
  have tot : ∀ a b : Ky, ((!ltOf cfK b a) || (!ltOf cfK a b)) = true := fun a b => by
    cases h1 : ltOf cfK b a with
    | false => rfl
    | true =>
      cases h2 : ltOf cfK a b with
      | false => rfl
      | true => have := swoK.trans _ _ _ h1 h2; rw [swoK.irrefl] at this; cases this
  have h1 := List.pairwise_mergeSort (le := fun x y => !ltOf cfK y x) tr tot ss
  have h2 : (srtK ss).Nodup := (srt_perm ss).nodup_iff.2 hn
  refine (List.Pairwise.and h1 h2).imp (fun {a b} h => ?_)
  obtain ⟨h3, h4⟩ := h
  simp only [Bool.not_eq_true'] at h3
  cases h5 : ltOf cfK a b with
  | true => rw [lt_cf] at h5; simp only [decide_eq_true_eq] at h5; exact h5
  | false => exact absurd (totK a b h5 h3) h4
theorem inhK : Nonempty (Inhabited Ky) := ⟨⟨⟨(⟨#[0]⟩, 1), ⟨by decide, by decide, by decide, by decide⟩⟩⟩⟩

set_option maxRecDepth 100000 in
set_option maxHeartbeats 2000000 in
/-- slices.SortedFunc(seq, order). -/
theorem sortedFunc_in (n : Nat) (hn : 4 ≤ n) (g : Nat) (lb : Array Value) (eg : ∀ args w, (callFunc g args).run Try.prog w = .ok (.enter g args) w) (S : List Ky → Prop) (N : Nat) (hN : N ≤ 1000) (hS' : ∀ ss, S ss → ss.length ≤ N) (w : World) (hseq : SeqStopsK Fence.wide (n - 1 - 1 - 1) Try.prog g lb kyE KeepsWalks S (fun _ => True) N w) :
    CallsIn Fence.wide n Try.prog 39 #[.func (.func g) #[] lb, .func (.func 41) #[] #[]] w fun e w' => ∃ (v : Value) (ss : List Ky), e = .returned v ∧ S ss ∧ w'.ownsRow w.heap.size 73 2 v ss.length (kyF (srtK ss)) ∧ Below w.heap.size w w' := by
  obtain ⟨hI⟩ := inhK
  have h1 : 1 ≤ n := by omega
  have hf : Fence.wide.fn 48 := trivial
  have hf2 : Fence.wide.fn 49 := trivial
  have eg2 : ∀ args w, (callFunc 41 args).run Try.prog w = .ok (.enter 41 args) w := enters_of Try.func41 (by kernel_rfl) rfl
  refine callsIn_of_wp Try.func39 rfl trivial ?_ rfl
  simp only [Try.ntmps39, List.size_toArray, List.length_cons, List.length_nil, Nat.reduceAdd, Nat.reduceSub, Array.replicate_succ, Array.replicate_zero, List.push_toArray, List.append_toArray, List.nil_append, List.cons_append]
  gi_wp2_with (gi_at_call 48; refine (collect_in (n - 1) (by omega) g lb eg S N hN _ hseq).mono ?_; rintro e W ⟨v, ss, rfl, hS, hrow, hnil, hb⟩)
  rcases hrow.2 with ⟨rfl, hz⟩ | ⟨gb, cap, cur, rfl, hbase, hgb, r1, r2, r3, r4⟩
  · have hss : ss = [] := List.eq_nil_of_length_eq_zero hz
    subst hss
    have cS := fun fv => AnyF.slices_SortFunc_none { laysK with } none 0 fv W
    change ∀ fv, Calls Try.prog 49 _ _ _ at cS
    gi_wp2_with (gi_at_call 49; refine (callsIn_wide.2 (cS _)).mono ?_; rintro e w' ⟨rfl, rfl⟩)
    go_ret
    have e0 : kyF (srtK []) = [] := by unfold srtK; simp [kyF]
    refine ⟨.slice none 0 0, [], rfl, hS, ?_, hb⟩
    rw [e0]
    exact World.ownsRow_nil _ _ _ _
  · have hH : HoldsK kyC 2 W gb 0 ss.toArray := holds_key hgb r4
    have hgl : gb < W.heap.size := (Array.getElem?_eq_some_iff.1 hgb).1
    have hsz : ss.toArray.size < 4611686018427387904 := by have := hS' ss hS; simp; omega
    have cS := AnyQ.slices_SortFunc_total laysK 2 agg_key size_key kyC (fun _ => rfl) (fun x v hv => by unfold kyC at hv; simp at hv; rcases hv with rfl | rfl <;> rfl) cfK swoK 41 #[] gb 0 cap ss.toArray W eg2 (cmpK gb 0 ss.toArray.size W) hH hgl hsz totK
    change Calls Try.prog 49 _ _ _ at cS
    rw [List.size_toArray] at cS
    gi_wp2_with (gi_at_call 49; go_must (refine (callsIn_wide.2 cS).mono ?_); rintro e w' ⟨rfl, nn, os, rfl⟩)
    go_ret
    refine ⟨_, ss, rfl, hS, own_sorted (ts := srtK ss) (srt_perm ss).length_eq hbase hgb r1 r2 r3, ?_⟩
    exact hb.grown (grown_key _) hb.size (fun j hj => by cases hj; exact hbase)

end Go.Proofs.Ytcmhjlflgedcdaa

/- Rows of entries, as they lie in memory. -/
namespace Go.Proofs.Ytcmhjlflgedcdaa
open Go.RowKit
open Pl

/-- Entries as cells. -/
def eVc (p : En × Value) : List Value := [.string p.1.n, .int .i64 p.1.t, .int .i64 p.1.l, p.2, .int .i64 p.1.r, .int .i64 p.1.u]
def eC (M : List (En × Value)) : List Value := M.flatMap eVc
theorem eC_len (M : List (En × Value)) : (eC M).length = M.length * 6 := flat_len (f := eVc) (z := 6) (fun _ => rfl) M
theorem eC_app (a b : List (En × Value)) : eC (a ++ b) = eC a ++ eC b := by simp [eC]
theorem eC_at {xs : List (En × Value)} {k : Nat} (hk : k < xs.length) (i : Nat) (hi : i < 6) : (eC xs)[k * 6 + i]? = (eVc xs[k])[i]? := flat_get (f := eVc) (z := 6) (fun _ => rfl) xs k hk i hi
theorem infoEn : (Try.prog.info? 36).map (fun i => (i.zero, i.size, i.bytes)) = some (some eZ, 6, 72) := by kernel_rfl
/-- A row of entries of the call's own. -/
structure ES (B : Nat) (w : World) (v : Value) (M : List (En × Value)) : Prop where
  own : w.ownsRow B 36 6 v M.length (eC M)
  dat : ∀ p ∈ M, w.ownsRow B 9 1 p.2 p.1.ds.length (tC p.1.ds)
theorem ES.below {B : Nat} {w w' : World} {v : Value} {M : List (En × Value)} (h : ES B w v M) (hb : Below w.heap.size w w') : ES B w' v M := ⟨own_past h.own hb, fun p hp => own_past (h.dat p hp) hb⟩
theorem ES.add {B : Nat} {w w' : World} {v v' : Value} {M : List (En × Value)} (h : ES B w v M) (p : En × Value) (ho : w'.ownsRow B 36 6 v' (M.length + 1) (eC M ++ eVc p)) (hg : w.grownBy w' v.ownBlock) (hd : w.ownsRow B 9 1 p.2 p.1.ds.length (tC p.1.ds)) : ES B w' v' (M ++ [p]) := by
  have key : ∀ q : En × Value, w.ownsRow B 9 1 q.2 q.1.ds.length (tC q.1.ds) → w'.ownsRow B 9 1 q.2 q.1.ds.length (tC q.1.ds) := fun q hq => by
    refine hq.kept hg ?_
    cases hv : q.2.ownBlock with
    | none => exact .inl rfl
    | some k => exact .inr (fun e => own_apart hq h.own (by decide) hv e.symm)
  refine ⟨?_, fun q hq => ?_⟩
  · rw [eC_app, List.length_append]
    have : eC [p] = eVc p := by simp [eC]
    rw [this]
    exact ho
  · rcases List.mem_append.1 hq with hq | hq
    · exact key q (h.dat q hq)
    · simp at hq; subst hq; exact key q hd

end Go.Proofs.Ytcmhjlflgedcdaa

/- All, plainly: the entries in the row of their keys. -/
namespace Go.Proofs.Ytcmhjlflgedcdaa
open Go.RowKit Go.Shelf Go.Sort
open Pl

theorem nodup_map {α β : Type} {f : α → β} {l : List α} (h : (l.map f).Nodup) : l.Nodup := (List.pairwise_map.1 h).imp (fun h e => h (congrArg f e))
/-- The entries of sorted keys. -/
def srtL (L : List (En × Value)) (ts : List Ky) : List (En × Value) := ts.filterMap fun x => atL L x.1.1 x.1.2
theorem key_there {L : List (En × Value)} (hg : Good L) {ts : List Ky} (hp : (ts.map Subtype.val).Perm (L.map keyP)) {x : Ky} (hx : x ∈ ts) : ∃ p ∈ L, atL L x.1.1 x.1.2 = some p ∧ keyP p = x.1 := by
  have := hp.mem_iff.1 (List.mem_map.2 ⟨x, hx, rfl⟩)
  obtain ⟨p, hp', e⟩ := List.mem_map.1 this
  refine ⟨p, hp', ?_, e⟩
  have h1 := atL_mem hg hp'
  rw [← e]
  exact h1
theorem srt_keys {L : List (En × Value)} (_hg : Good L) : ∀ (ts : List Ky), (∀ x ∈ ts, ∃ p ∈ L, atL L x.1.1 x.1.2 = some p ∧ keyP p = x.1) → (srtL L ts).map keyP = ts.map Subtype.val ∧ ∀ p ∈ srtL L ts, p ∈ L := by
  intro ts
  induction ts with
  | nil => intro _; exact ⟨rfl, fun p hp => by simp [srtL] at hp⟩
  | cons x ts ih =>
    intro h
    obtain ⟨p, hp, ha, hk⟩ := h x (List.mem_cons_self ..)
    obtain ⟨h1, h2⟩ := ih (fun y hy => h y (List.mem_cons_of_mem _ hy))
    have e : srtL L (x :: ts) = p :: srtL L ts := by unfold srtL; rw [List.filterMap_cons, ha]
    rw [e]
    refine ⟨by rw [List.map_cons, List.map_cons, h1, hk], fun q hq => ?_⟩
    rcases List.mem_cons.1 hq with rfl | hq
    · exact hp
    · exact h2 q hq
theorem srt_all {L : List (En × Value)} (hg : Good L) {ts : List Ky} (hp : (ts.map Subtype.val).Perm (L.map keyP)) (hr : ts.Pairwise (fun x y => cfK x y < 0)) : fstL (srtL L ts) = allP (fstL L) ∧ (srtL L ts).length = ts.length := by
  obtain ⟨h1, h2⟩ := srt_keys hg ts (fun x hx => key_there hg hp hx)
  have hlen : (srtL L ts).length = ts.length := by have := congrArg List.length h1; simpa using this
  refine ⟨rise_one ?_ (all_rise hg.fst hg.dis) ?_, hlen⟩
  · have e : (ts.map Subtype.val).Pairwise (fun x y => cK x.1 x.2 y.1 y.2 < 0) := List.pairwise_map.2 hr
    rw [← h1] at e
    unfold RisE fstL
    rw [List.pairwise_map] at e ⊢
    exact e
  · refine List.Perm.trans ?_ (all_perm _).symm
    refine List.Perm.map _ ?_
    have n1 : ((srtL L ts).map keyP).Nodup := by rw [h1]; exact hp.nodup_iff.2 (keys_nodup hg)
    have n2 := keys_nodup hg
    refine (List.perm_ext_iff_of_nodup (nodup_map n1) (nodup_map n2)).2 (fun p => ⟨h2 p, fun hpL => ?_⟩)
    have : keyP p ∈ (srtL L ts).map keyP := by rw [h1]; exact hp.mem_iff.2 (List.mem_map.2 ⟨p, hpL, rfl⟩)
    obtain ⟨q, hq, e⟩ := List.mem_map.1 this
    have e2 : q.1.n = p.1.n ∧ q.1.t = p.1.t := by unfold keyP at e; simpa using e
    have := hg.one hpL (h2 q hq) (sameK_iff.2 e2)
    rw [this]; exact hq

/-- m[k] of a key that is held. -/
theorem MapAt.look1 {w : World} {mb : Option Nat} {L : List (En × Value)} (h : MapAt w mb L) {p : En × Value} (hp : p ∈ L) :
    (Instr.lookup 66 (.map mb) (.agg #[.string p.1.n, .int .i64 p.1.t]) false).run Try.prog w = .ok (eA p.1 p.2) w := by
  rcases h with ⟨rfl, rfl⟩ | ⟨b, rfl, hh⟩
  · simp at hp
  · obtain ⟨k, D, ho, hm⟩ := hh.map
    have hok := (hh.good.ok p hp).k
    obtain ⟨v, ps, hrun, hv⟩ := ho.lookup keyE Try.underlying66 (zeroE w) (zd := .held (⟨#[]⟩, 0, 0, .slice none 0 0, 0, 0)) (zp := []) rfl (keyOf_e (max_ok hok) (wf_ok hok))
    obtain ⟨c, rfl, hc⟩ := rE_inv hv
    rw [mapOf_at hm hh.good hp] at hc
    cases hc
    exact hrun
/-- len of the map. -/
theorem wpList_len_e (w : World) {ops : Array Oper} {rest : List Oper} {o : Oper} {a : Act} {Q : Exit → Act → World → Prop} (hgd : o.guard = none) (m : Operand) (ho : o.op = .call { callee := .builtin .len, args := #[m], argTypes := #[66] }) (mb : Option Nat) (L : List (En × Value)) (hm : a.eval m = .map mb) (h : MapAt w mb L)
    (hK : wpList Try.prog ops Q rest (a.put o.dst (.int .i64 (L.length : Nat))) w) : wpList Try.prog ops Q (o :: rest) a w := by
  refine wpList_plain hgd fun K hK' => ?_
  have hrun := h.len o.type
  unfold Oper.wp
  simp only [execOp, ho, resolve, invoke, builtin, Sem.run_bind, Sem.run_pure, Result.andThen_ok, List.map_toArray, List.map_cons, List.map_nil, hm, hrun]
  exact hK' _ _ hK

end Go.Proofs.Ytcmhjlflgedcdaa

/- What All gives. -/
namespace Go.Proofs.Ytcmhjlflgedcdaa
open Go.RowKit Go.Shelf Go.Sort
open Pl

/-- slices.SortedFunc(maps.Keys(m), order). -/
theorem sorted_any {w : World} {mb : Option Nat} {L : List (En × Value)} (h : MapAt w mb L) (hl : L.length ≤ 256) (Bm : Nat) (hBm : Bm < w.heap.size) (hm : w.cell? ⟨Bm, 0, none⟩ = some (.map mb)) :
    Calls Try.prog 39 #[.func (.func 50) #[] #[.pointer (some ⟨Bm, 0, none⟩)], .func (.func 41) #[] #[]] w fun e w' => ∃ (v : Value) (Ls : List (En × Value)) (ts : List Ky), e = .returned v ∧ w'.ownsRow w.heap.size 73 2 v ts.length (kyF ts) ∧ ts.length = L.length ∧ Ls.map keyP = ts.map Subtype.val ∧ (∀ p ∈ Ls, p ∈ L) ∧ fstL Ls = allP (fstL L) ∧ Below w.heap.size w w' := by
  refine (callsIn_wide (n := 6)).1 ?_
  have hg := h.good
  have eg : ∀ args w, (callFunc 50 args).run Try.prog w = .ok (.enter 50 args) w := enters_of Try.func50 (by kernel_rfl) rfl
  have hseq : SeqStopsK Fence.wide (6 - 1 - 1 - 1) Try.prog 50 #[.pointer (some ⟨Bm, 0, none⟩)] kyE KeepsWalks (fun ss : List Ky => (ss.map Subtype.val).Perm (L.map keyP)) (fun _ => True) L.length w := by
    rcases h with ⟨rfl, rfl⟩ | ⟨b, rfl, hh⟩
    · exact fun l J Jx W hW hJ _ hY h0 => keys1_nil _ l Bm J Jx W hJ ((hW.cell (p := ⟨Bm, 0, none⟩) hBm).trans hm) h0
    · exact keys_stops _ (by omega) Bm b L w hBm hm hh
  refine (sortedFunc_in 6 (by omega) _ _ eg _ L.length (by omega) (fun ss hs => by have := hs.length_eq; simp at this; omega) w hseq).mono ?_
  rintro e w' ⟨v, ss, rfl, hS, hrow, hb⟩
  have hn : ss.Nodup := nodup_map (hS.nodup_iff.2 (keys_nodup hg))
  have hp2 : ((srtK ss).map Subtype.val).Perm (L.map keyP) := ((srt_perm ss).map _).trans hS
  have hl2 : (srtK ss).length = ss.length := (srt_perm ss).length_eq
  obtain ⟨h1, h2⟩ := srt_keys hg (srtK ss) (fun x hx => key_there hg hp2 hx)
  refine ⟨v, srtL L (srtK ss), srtK ss, rfl, by rw [hl2]; exact hrow, by rw [hl2]; have := hS.length_eq; simpa using this, h1, h2, (srt_all hg hp2 (srt_rise hn)).1, hb⟩

/-- How far All is. -/
structure AL (w0 w : World) (gs most : Nat) (mb : Option Nat) (L Ls : List (En × Value)) (kv : Value) (ts : List Ky) (v : Value) (M : List (En × Value)) : Prop where
  st : St w gs most mb L
  ky : w.ownsRow w0.heap.size 73 2 kv ts.length (kyF ts)
  es : ES w0.heap.size w v M
  bel : Below w0.heap.size w0 w
theorem AL.below {w0 w w' : World} {gs most : Nat} {mb : Option Nat} {L Ls : List (En × Value)} {kv : Value} {ts : List Ky} {v : Value} {M : List (En × Value)} (h : AL w0 w gs most mb L Ls kv ts v M) (hb : Below w.heap.size w w') : AL w0 w' gs most mb L Ls kv ts v M :=
  ⟨h.st.below hb, own_past h.ky hb, h.es.below hb, next h.bel hb⟩

set_option maxRecDepth 20000 in
set_option maxHeartbeats 4000000 in
theorem all_any {w : World} {gs most : Nat} {mb : Option Nat} {L : List (En × Value)} (h : St w gs most mb L) (hds : ∀ p ∈ L, 0 < p.1.ds.length) :
    Calls Try.prog 22 #[.pointer (some ⟨gs, 0, none⟩)] w fun e w' => ∃ v M, e = .returned v ∧ ES w.heap.size w' v M ∧ fstL M = allP (fstL L) ∧ Below w.heap.size w w' := by
  obtain ⟨i0, hi, hz0, hz1, hz2⟩ := info_parts infoEn
  have HST : Hid (St w gs most mb L) := h
  have hlen : L.length ≤ 256 := Nat.le_trans h.len h.m2
  have c1 : w.cell? ⟨gs, 1, none⟩ = some (.map mb) := h.blk.cell 1
  have hat := h.at'
  have hl0 : ∀ ty, (Builtin.len_ #[66] ty #[.map mb]).run Try.prog w = .ok (.int .i64 (L.length : Nat)) w := fun ty => hat.len ty
  have hK : ∀ u, Calls Try.prog 40 #[.map mb] u fun e w' => e = .returned (.func (.func 50) #[] #[.pointer (some ⟨u.heap.size, 0, none⟩)]) ∧ w' = u.alloc (.cells #[.map mb] 66) := fun u => (callsIn_wide (n := 2)).1 (keys_in 2 mb u)
  go_enter Try.func22, Try.ntmps22
  go_wp2_with (first
    | (at_make; refine wpList_make_own _ rfl _ _ 50 rfl w.heap.size 36 i0 _ 6 Try.underlying50 hi hz0 hz1 .i64 .i64 _ L.length rfl rfl rfl (by rw [hz2]; omega) (by unfold maxLen; omega) (Nat.le_refl _) ?_; intro w1 own1 grow1; have H1 : Below w.heap.size w w1 := grown_below grow1; have s1 := HST.out.below H1; clear c1; have c1 : w1.cell? ⟨gs, 1, none⟩ = some (.map mb) := s1.blk.cell 1)
    | (go_at_call 40; go_must (refine (hK _).mono ?_); rintro e w2 ⟨rfl, rfl⟩; have H2 := lay H1 (.cells #[.map mb] 66); have s2 := HST.out.below H2; have own2 := own1.alloc (.cells #[.map mb] 66); have hso := sorted_any s2.at' hlen w1.heap.size (by simp) ((Blk.new w1 #[.map mb] 66).cell 0))
    | (go_at_call 39; go_must (refine hso.mono ?_); rintro e w3 ⟨kv, Ls, ts, rfl, row3, hl3, hk3, hm3, hf3, b3⟩; obtain ⟨ky, kcap, rfl⟩ := row_shape row3; have HAL : Hid (AL w w3 gs most mb L Ls (.slice ky ts.length kcap) ts (.slice (some ⟨w.heap.size, 0, none⟩) 0 L.length) []) := ⟨s2.below b3, own_base row3 (by have := H2.size; omega), ⟨own_past own2 b3, fun p hp => by simp at hp⟩, next H2 b3⟩; have HL3 : Hid (ts.length = L.length) := hl3; clear hl3))
  obtain ⟨N, hN⟩ : ∃ N, N = ts.length := ⟨_, rfl⟩
  have HN : Hid (N = ts.length) := hN
  have hN2 : N ≤ 256 := by have := HL3.out; omega
  have HK3 : Hid (Ls.map keyP = ts.map Subtype.val) := hk3
  have HM3 : Hid (∀ p ∈ Ls, p ∈ L) := hm3
  have HF3 : Hid (fstL Ls = allP (fstL L)) := hf3
  have HDS : Hid (∀ p ∈ L, 0 < p.1.ds.length) := hds
  have hgd := h.at'.good
  rw [← hN] at HAL ⊢
  clear hN HL3 hk3 hm3 hf3 row3 b3 s2 H2 own2 own1 grow1 s1 H1 hso hK hl0 c1 hat hds h
  go_loopw [3, 22] (fun v i wr => ∃ (j : Nat) (M : List (En × Value)), j ≤ N ∧ i = .int .i64 (j : Int) ∧ Hid (AL w wr gs most mb L Ls (.slice ky N kcap) ts v M) ∧ Hid (fstL M = (fstL Ls).take j)) (fun _ i _ => N - (intOf i).toNat)
  case atStart => exact ⟨0, [], Nat.zero_le _, rfl, HAL, rfl⟩
  case round =>
    clear HAL
    obtain ⟨j, M, hj, rfl, HR, HM⟩ := hrel
    have hlen3 : Ls.length = N := by rw [HN.out]; have := congrArg List.length HK3.out; simpa using this
    by_cases hjn : j < N
    · obtain ⟨p, hp⟩ : ∃ p, p = Ls[j]'(by omega) := ⟨_, rfl⟩
      have hpL : p ∈ L := HM3.out p (by rw [hp]; exact List.getElem_mem _)
      have hkey : keyP p = (ts[j]'(by rw [← HN.out]; exact hjn)).1 := by
        have h1 : (Ls.map keyP)[j]'(by simp; omega) = (ts.map Subtype.val)[j]'(by simp; rw [← HN.out]; exact hjn) := by simp only [HK3.out]
        simp only [List.getElem_map] at h1
        rw [hp]; exact h1
      have HNEXT : Hid (fstL (M ++ [(p.1, Value.bool true)]) = (fstL Ls).take (j + 1)) := by
        unfold Hid
        rw [fst_app, HM.out, List.take_succ_eq_append_getElem (by rw [fst_len]; omega)]
        congr 1
        simp [fstL, hp]
      have hrow := HR.out.ky
      rw [← HN.out] at hrow
      obtain ⟨kg, kcap', e1, _, _⟩ := hrow.form (by omega)
      simp only [Value.slice.injEq, true_and] at e1
      obtain ⟨rfl, rfl⟩ := e1
      have a0 : wr.cell? ⟨kg, j * 2, none⟩ = some (.string p.1.n) := by
        rw [hrow.cellAt (j * 2) (by omega)]
        have := flat_get (f := kyC) (z := 2) (fun _ => rfl) ts j (by rw [← HN.out]; exact hjn) 0 (by decide)
        rw [Nat.add_zero] at this
        show (kyF ts)[j * 2]? = _
        unfold kyF
        rw [this]
        unfold kyC
        rw [← hkey]; rfl
      have a1 : wr.cell? ⟨kg, j * 2 + 1, none⟩ = some (.int .i64 p.1.t) := by
        rw [hrow.cellAt (j * 2 + 1) (by omega)]
        have := flat_get (f := kyC) (z := 2) (fun _ => rfl) ts j (by rw [← HN.out]; exact hjn) 1 (by decide)
        show (kyF ts)[j * 2 + 1]? = _
        unfold kyF
        rw [this]
        unfold kyC
        rw [← hkey]; rfl
      obtain ⟨qy, qc, hqd⟩ := row_shape (HR.out.st.at'.dat hpL)
      have HLK : Hid (∀ u, MapAt u mb L → (Instr.lookup 66 (.map mb) (.agg #[.string p.1.n, .int .i64 p.1.t]) false).run Try.prog u = .ok (eA p.1 p.2) u) := fun u hu => hu.look1 hpL
      have HCP : Hid (∀ u, St u gs most mb L → Calls Try.prog 38 #[.agg #[.string p.1.n, .int .i64 p.1.t, .int .i64 p.1.l, p.2]] u fun e w' => ∃ g, e = .returned (.agg #[.string p.1.n, .int .i64 p.1.t, .int .i64 p.1.l, .slice (some ⟨g, 0, none⟩) p.1.ds.length p.1.ds.length]) ∧ w'.ownsRow u.heap.size 9 1 (.slice (some ⟨g, 0, none⟩) p.1.ds.length p.1.ds.length) p.1.ds.length (tC p.1.ds) ∧ u.heap.size ≤ g ∧ Below u.heap.size u w') := fun u hu =>
        copyOf_any _ _ _ _ _ _ (by have := (hgd.ok p hpL).k.size; omega) (Row.of_own (hu.at'.dat hpL)) (HDS.out p hpL) (hgd.ok p hpL).len (hgd.ok p hpL).siz
      clear hrow hkey hp hpL
      obtain ⟨⟨qn, qt, ql, qds, qr, qu⟩, qd⟩ := p
      simp only at hqd HLK HCP HNEXT a0 a1
      obtain ⟨qN, hqN⟩ : ∃ qN, qN = qds.length := ⟨_, rfl⟩
      have HQN : Hid (qN = qds.length) := hqN
      rw [← hqN] at hqd HCP
      subst hqd
      unfold eA at HLK
      clear hqN
      go_wp2
      obtain ⟨W, hW⟩ : ∃ W, W = wr.alloc (.cells #[.string qn, .int .i64 qt] 73) := ⟨_, rfl⟩
      have hbW : Below wr.heap.size wr W := by rw [hW]; exact lay (Below.refl _ _) _
      have kK : Blk W wr.heap.size #[.string qn, .int .i64 qt] 73 := by rw [hW]; exact Blk.new wr _ _
      have hWs : W.heap.size = wr.heap.size + 1 := by rw [hW]; simp
      rw [← hW]
      clear hW a0 a1
      have HW := HR.out.below hbW
      have c1 : W.cell? ⟨gs, 1, none⟩ = some (.map mb) := HW.st.blk.cell 1
      have c1' : ∀ o, (W.alloc o).cell? ⟨gs, 1, none⟩ = some (.map mb) := fun o => (HW.st.blk.alloc o).cell 1
      have d0 : W.cell? ⟨wr.heap.size, 0, none⟩ = some (.string qn) := kK.cell 0
      have d1 : W.cell? ⟨wr.heap.size, 1, none⟩ = some (.int .i64 qt) := kK.cell 1
      have d0' : ∀ o, (W.alloc o).cell? ⟨wr.heap.size, 0, none⟩ = some (.string qn) := fun o => (kK.alloc o).cell 0
      have d1' : ∀ o, (W.alloc o).cell? ⟨wr.heap.size, 1, none⟩ = some (.int .i64 qt) := fun o => (kK.alloc o).cell 1
      have l1 := HLK.out W.drew (HW.st.at'.below (Below.refl _ _).drew)
      have l2 : ∀ o, (Instr.lookup 66 (.map mb) (.agg #[.string qn, .int .i64 qt]) false).run Try.prog (W.alloc o).drew = _ := fun o => HLK.out _ (HW.st.at'.below (((Below.refl _ _).alloc (Nat.le_refl _) o).drew))
      go_region
      obtain ⟨X, hX⟩ : ∃ X, X = (W.alloc (.cells #[.string qn, .int .i64 qt, .int .i64 ql, .slice qy qN qc, .int .i64 qr, .int .i64 qu] 36)).drew := ⟨_, rfl⟩
      rw [← hX]
      have hbX : Below W.heap.size W X := by rw [hX]; exact ((Below.refl _ _).alloc (Nat.le_refl _) _).drew
      have kF : Blk X W.heap.size #[.string qn, .int .i64 qt, .int .i64 ql, .slice qy qN qc, .int .i64 qr, .int .i64 qu] 36 := by rw [hX]; exact Blk.new W _ _
      rw [hWs] at kF
      clear hX c1 c1' d0 d1 d0' d1' l1 l2 kK
      have HX := HW.below hbX
      have hXs := HX.bel.size
      have hgt := HR.out.bel.size
      have hcp := HCP.out X HX.st
      have e0 := kF.cell 0
      have e1 := kF.cell 1
      have e2 := kF.cell 2
      have e3 := kF.cell 3
      simp only [List.getElem?_toArray, List.getElem?_cons_succ, List.getElem?_cons_zero] at e0 e1 e2 e3
      obtain ⟨vy, vc, hv⟩ := row_shape HR.out.es.own
      clear HW HLK HCP
      subst hv
      have HXH : Hid (AL w X gs most mb L Ls (.slice (some ⟨kg, 0, none⟩) N kcap) ts (.slice vy M.length vc) M) := HX
      have HLT : Hid (wr.heap.size + 1 < X.heap.size) := kF.lt
      have HKG : Hid (kg ≠ wr.heap.size + 1 ∧ (∀ k, (Value.slice vy M.length vc).ownBlock = some k → k ≠ wr.heap.size + 1) ∧ ∀ p ∈ M, ∀ k, p.2.ownBlock = some k → k ≠ wr.heap.size + 1) := by
        have h1 := HR.out.ky.lt kg rfl
        exact ⟨by omega, fun k hk => by have := HR.out.es.own.lt k hk; omega, fun p hp k hk => by have := (HR.out.es.dat p hp).lt k hk; omega⟩
      clear HX
      have HSTEP : Hid (∀ (w4 : World) (g : Nat), Below X.heap.size X w4 → w4.ownsRow X.heap.size 9 1 (.slice (some ⟨g, 0, none⟩) qN qN) qN (tC qds) → AL w ((((w4.setCell ⟨wr.heap.size + 1, 0, none⟩ (.string qn)).setCell ⟨wr.heap.size + 1, 1, none⟩ (.int .i64 qt)).setCell ⟨wr.heap.size + 1, 2, none⟩ (.int .i64 ql)).setCell ⟨wr.heap.size + 1, 3, none⟩ (.slice (some ⟨g, 0, none⟩) qN qN)) gs most mb L Ls (.slice (some ⟨kg, 0, none⟩) N kcap) ts (.slice vy M.length vc) M ∧ ((((w4.setCell ⟨wr.heap.size + 1, 0, none⟩ (.string qn)).setCell ⟨wr.heap.size + 1, 1, none⟩ (.int .i64 qt)).setCell ⟨wr.heap.size + 1, 2, none⟩ (.int .i64 ql)).setCell ⟨wr.heap.size + 1, 3, none⟩ (.slice (some ⟨g, 0, none⟩) qN qN)).ownsRow w.heap.size 9 1 (.slice (some ⟨g, 0, none⟩) qN qN) qN (tC qds) ∧ Row (((((w4.setCell ⟨wr.heap.size + 1, 0, none⟩ (.string qn)).setCell ⟨wr.heap.size + 1, 1, none⟩ (.int .i64 qt)).setCell ⟨wr.heap.size + 1, 2, none⟩ (.int .i64 ql)).setCell ⟨wr.heap.size + 1, 3, none⟩ (.slice (some ⟨g, 0, none⟩) qN qN)).alloc (.cells #[.string qn, .int .i64 qt, .int .i64 ql, .slice (some ⟨g, 0, none⟩) qN qN, .int .i64 qr, .int .i64 qu] 36)) (.slice (some ⟨w4.heap.size, 0, none⟩) 1 1) 1 [.string qn, .int .i64 qt, .int .i64 ql, .slice (some ⟨g, 0, none⟩) qN qN, .int .i64 qr, .int .i64 qu]) := fun w4 g b4 o4 => by
        have hg4 := (o4.lt g rfl).1
        have hl4 := HLT.out
        have T : ∀ (x : World) (i : Nat) (v : Value), Turn (fun k => k = wr.heap.size + 1) x (x.setCell ⟨wr.heap.size + 1, i, none⟩ v) := fun x i v => Turn.of_set (S := fun k => k = wr.heap.size + 1) x (p := ⟨wr.heap.size + 1, i, none⟩) rfl v
        have tY := (((T w4 0 (.string qn)).same (T _ 1 (.int .i64 qt))).same (T _ 2 (.int .i64 ql))).same (T _ 3 (.slice (some ⟨g, 0, none⟩) qN qN))
        have H4 := HXH.out.below b4
        have hst := HR.out.st.lt
        have hro := Row.of_blk (Blk.new ((((w4.setCell ⟨wr.heap.size + 1, 0, none⟩ (.string qn)).setCell ⟨wr.heap.size + 1, 1, none⟩ (.int .i64 qt)).setCell ⟨wr.heap.size + 1, 2, none⟩ (.int .i64 ql)).setCell ⟨wr.heap.size + 1, 3, none⟩ (.slice (some ⟨g, 0, none⟩) qN qN)) #[.string qn, .int .i64 qt, .int .i64 ql, .slice (some ⟨g, 0, none⟩) qN qN, .int .i64 qr, .int .i64 qu] 36) (xs := [.string qn, .int .i64 qt, .int .i64 ql, .slice (some ⟨g, 0, none⟩) qN qN, .int .i64 qr, .int .i64 qu]) rfl 1 1
        have hsz : ((((w4.setCell ⟨wr.heap.size + 1, 0, none⟩ (.string qn)).setCell ⟨wr.heap.size + 1, 1, none⟩ (.int .i64 qt)).setCell ⟨wr.heap.size + 1, 2, none⟩ (.int .i64 ql)).setCell ⟨wr.heap.size + 1, 3, none⟩ (.slice (some ⟨g, 0, none⟩) qN qN)).heap.size = w4.heap.size := by simp [World.setCell]
        rw [hsz] at hro
        refine ⟨⟨H4.st.turn tY (fun k hk e => by have := hst k hk; omega), tY.row H4.ky (fun k hk e => by simp [Value.ownBlock] at hk; have := HKG.out.1; omega), ⟨tY.row H4.es.own (fun k hk e => HKG.out.2.1 k hk e), fun p hp => tY.row (H4.es.dat p hp) (fun k hk e => HKG.out.2.2 p hp k hk e)⟩, tY.one_below H4.bel (by omega)⟩, tY.row (own_base o4 (by omega)) (fun k hk e => by simp [Value.ownBlock] at hk; omega), hro⟩
      have HADD : Hid (∀ (u u' : World) (v' : Value) (g : Nat), AL w u gs most mb L Ls (.slice (some ⟨kg, 0, none⟩) N kcap) ts (.slice vy M.length vc) M → u.ownsRow w.heap.size 9 1 (.slice (some ⟨g, 0, none⟩) qN qN) qN (tC qds) → u'.ownsRow w.heap.size 36 6 v' (M.length + 1) (eC M ++ [.string qn, .int .i64 qt, .int .i64 ql, .slice (some ⟨g, 0, none⟩) qN qN, .int .i64 qr, .int .i64 qu]) → u.grownBy u' (Value.slice vy M.length vc).ownBlock → AL w u' gs most mb L Ls (.slice (some ⟨kg, 0, none⟩) N kcap) ts v' (M ++ [(⟨qn, qt, ql, qds, qr, qu⟩, .slice (some ⟨g, 0, none⟩) qN qN)])) := fun u u' v' g hu ho hn hgr => by
        have hlo := hu.es.own.lt
        have hst := HST.out.lt
        refine ⟨hu.st.turn (Turn.of_grown (S := fun k => (Value.slice vy M.length vc).ownBlock = some k) hgr (fun k e => e)) (fun k hk e => by have := hst k hk; have := hlo k e; omega), ?_, hu.es.add (⟨qn, qt, ql, qds, qr, qu⟩, .slice (some ⟨g, 0, none⟩) qN qN) hn hgr (by rw [← HQN.out]; exact ho), hu.bel.grown hgr hu.bel.size (fun k e => (hlo k e).1)⟩
        refine hu.ky.kept hgr ?_
        exact .inr (fun e => own_apart hu.ky hu.es.own (by decide) (k := kg) rfl e.symm)
      have HSM : Hid (M.length ≤ 256) := by
        unfold Hid
        have := congrArg List.length HM.out
        rw [fst_len, List.length_take] at this
        omega
      go_wp2_with (first
        | (go_at_call 38; go_must (refine hcp.mono ?_); rintro e w4 ⟨g, rfl, own4, hg4, b4⟩; have HY := HSTEP.out w4 g b4 own4; have kF4 := kF.below b4; clear e0 e1 e2 e3 own4 hg4 b4 HSTEP; have e0 := kF4.cell 0; have e1 := kF4.cell 1; have e2 := kF4.cell 2; have e3 := kF4.cell 3; have e4 := kF4.cell 4; have e5 := kF4.cell 5; have f0 := kF4.frozen 0; have f1 := kF4.frozen 1; have f2 := kF4.frozen 2; have f3 := kF4.frozen 3; simp only [List.getElem?_toArray, List.getElem?_cons_succ, List.getElem?_cons_zero] at e0 e1 e2 e3 e4 e5)
        | (at_builtin; refine wpList_appG _ rfl (.tmp 36) (.tmp 38) 50 36 i0 _ 6 72 Try.underlying50 hi hz0 hz1 hz2 rfl (by decide) rfl w.heap.size _ M.length (eC M) rfl (HY.1.es.own.alloc _) (.slice (some ⟨w4.heap.size, 0, none⟩) 1 1) 1 [.string qn, .int .i64 qt, .int .i64 ql, .slice (some ⟨g, 0, none⟩) qN qN, .int .i64 qr, .int .i64 qu] rfl HY.2.2 rfl (by simp [Value.oneCell']) (by have := HSM.out; omega) (by have := HSM.out; unfold maxLen; omega) (by have := (HY.1.bel).size; simp only [World.size_alloc]; omega) ?_; intro v7 w7 own7 grow7 _; have HA := HADD.out _ w7 v7 g (HY.1.below ((Below.refl _ _).alloc (Nat.le_refl _) _)) (HY.2.1.alloc _) own7 grow7))
      go_roundw
      case rel => exact ⟨j + 1, _, by omega, by go_num, HA, by have := HNEXT.out; rw [fst_app] at this; unfold Hid; rw [fst_app]; exact this⟩
      case measure => simp [intOf]; omega
    · have hjn' : decide (j < N) = false := by simpa using hjn
      go_wp2
      go_ret
      exact ⟨_, M, rfl, HR.out.es, by rw [HM.out, List.take_of_length_le (by rw [fst_len]; omega)]; exact HF3.out, HR.out.bel⟩

end Go.Proofs.Ytcmhjlflgedcdaa

/- What the law's helpers give; Put and Get by what they come to. -/
namespace Go.Proofs.Ytcmhjlflgedcdaa
open Go.RowKit
open Pl

set_option maxRecDepth 20000 in
set_option maxHeartbeats 1000000 in
theorem sameS_any (n : ByteArray) (t l : Int) (v : Value) (a : List ByteArray) (n' : ByteArray) (t' l' : Int) (u : Value) (b : List ByteArray) (w : World) (h1 : Row w v a.length (tC a)) (h2 : Row w u b.length (tC b)) (hm1 : a.length ≤ maxLen) (hm2 : b.length ≤ maxLen) (r : Bool) (hr : decide (n = n' ∧ t = t' ∧ l = l' ∧ a = b) = r) :
    Calls Try.prog 20 #[.agg #[.string n, .int .i64 t, .int .i64 l, v], .agg #[.string n', .int .i64 t', .int .i64 l', u]] w fun e w' => e = .returned (.bool r) ∧ Below w.heap.size w w' := by
  have hb : Below w.heap.size w w := Below.refl _ _
  obtain ⟨x, c, hv⟩ := row_slice h1
  obtain ⟨x', c', hu⟩ := row_slice h2
  have HR : Hid (decide (n = n' ∧ t = t' ∧ l = l' ∧ a = b) = r) := hr
  clear hr
  by_cases e0 : n = n'
  · by_cases e1 : t = t'
    · by_cases e2 : l = l'
      · have K0 : Hid (∀ u' : World, Below w.heap.size w u' → Calls Try.prog 26 #[v, u] u' fun e w' => e = .returned (.bool r) ∧ Below u'.heap.size u' w') := fun u' hu' => sameT_any v u a b u' (h1.below hu') (h2.below hu') hm1 hm2 r (by rw [← HR.out]; simp [e0, e1, e2])
        subst e0 e1 e2 hv hu
        clear h1 h2 hm1 hm2 HR
        go_enter Try.func20, Try.ntmps20
        go_wp2_with (go_at_call 26; go_must (refine (K0.out _ (lay (lay hb _) _)).mono ?_); rintro e w1 ⟨rfl, b1⟩; replace hb := next (lay (lay hb _) _) b1; clear b1)
        go_ret
        exact ⟨ret_bool (by simp), hb⟩
      · have HF : Hid (r = false) := by unfold Hid; rw [← HR.out]; simp [e2]
        have e2' : (l == l') = false := by simpa using e2
        subst e0 e1 hv hu
        clear h1 h2 hm1 hm2 HR e2
        go_enter Try.func20, Try.ntmps20
        go_wp2
        go_ret
        exact ⟨ret_bool HF.out.symm, lay (lay hb _) _⟩
    · have HF : Hid (r = false) := by unfold Hid; rw [← HR.out]; simp [e1]
      have e1' : (t == t') = false := by simpa using e1
      subst e0 hv hu
      clear h1 h2 hm1 hm2 HR e1
      go_enter Try.func20, Try.ntmps20
      go_wp2
      go_ret
      exact ⟨ret_bool HF.out.symm, lay (lay hb _) _⟩
  · have HF : Hid (r = false) := by unfold Hid; rw [← HR.out]; simp [e0]
    have e0' : (n.toList == n'.toList) = false := by rw [str_eqd]; simpa using e0
    subst hv hu
    clear h1 h2 hm1 hm2 HR e0
    go_enter Try.func20, Try.ntmps20
    go_wp2
    go_ret
    exact ⟨ret_bool HF.out.symm, lay (lay hb _) _⟩
theorem set_any (n : ByteArray) (t : Int) (d : ByteArray) (w : World) :
    Calls Try.prog 25 #[.string n, .int .i64 t, .string d] w fun e w' => ∃ g, e = .returned (.agg #[.string n, .int .i64 t, .int .i64 5, .slice (some ⟨g, 0, none⟩) 1 1]) ∧ Blk w' g #[.string d] 9 ∧ w.heap.size ≤ g ∧ Below w.heap.size w w' := by
  have hb : Below w.heap.size w ((w.alloc (.cells #[.string ⟨#[]⟩, .int .i64 0, .int .i64 0, .slice none 0 0] 34)).alloc (.cells #[.string d] 9)) := lay (lay (Below.refl _ _) _) _
  have k0 := (Blk.new w #[.string ⟨#[]⟩, .int .i64 0, .int .i64 0, .slice none 0 0] 34).alloc (.cells #[.string d] 9)
  have k1 := Blk.new (w.alloc (.cells #[.string ⟨#[]⟩, .int .i64 0, .int .i64 0, .slice none 0 0] 34)) #[.string d] 9
  have e1 : (w.alloc (.cells #[.string ⟨#[]⟩, .int .i64 0, .int .i64 0, .slice none 0 0] 34)).heap.size = w.heap.size + 1 := by simp
  rw [e1] at k1
  go_enter Try.func25, Try.ntmps25
  go_wp2_with (refine wpList_storeS _ rfl (.tmp 6) (.tmp 11) 34 rfl w.heap.size _ _ 34 rfl rfl k0 (by kernel_rfl) rfl (by simp [Value.oneCell']) ?_; intro w2 k2 t2 _ _)
  exact bodyPost_ret (ret_s rfl rfl k2 ⟨_, Try.underlying34⟩ (by kernel_rfl)) rfl ⟨_, rfl, t2.blk k1 (by omega), by omega, t2.one_below hb (Nat.le_refl _)⟩

def PosL (L : List En) : Prop := ∀ e ∈ L, 0 < e.ds.length
theorem put_pos {most : Nat} {L : List En} {e : En} {now : Int} (h : PosL L) : PosL (putP most L e now) := by
  intro x hx
  unfold putP at hx
  split at hx
  · rename_i hc
    rcases List.mem_append.1 hx with hx | hx
    · exact h x (List.mem_filter.1 (cut_mem hx)).1
    · simp at hx; subst hx
      simp only [Bool.and_eq_true] at hc
      exact List.length_pos_iff.2 (mayE_parts hc.1).2.2.2.1
  · exact h x hx
theorem PosL.pairs {L : List (En × Value)} (h : PosL (fstL L)) : ∀ p ∈ L, 0 < p.1.ds.length := fun p hp => h p.1 (List.mem_map.2 ⟨p, hp, rfl⟩)
/-- Put, by what it comes to. -/
theorem put_k {w : World} {gs most : Nat} {mb : Option Nat} {L : List (En × Value)} (h : St w gs most mb L) (n : ByteArray) (t l r u now : Int) (v : Value) (ds : List ByteArray) (hn : n.size ≤ maxLen) (hr : Row w v ds.length (tC ds)) (hl : ds.length ≤ 8796093022000) (hs : ∀ d ∈ ds, d.size ≤ 140737488351232)
    (x : Int) (hx : errP ⟨n, t, l, ds, r, u⟩ now = x) (L0 L1 : List En) (h0 : fstL L = L0) (h1 : putP most L0 ⟨n, t, l, ds, r, u⟩ now = L1) :
    Calls Try.prog 14 #[.pointer (some ⟨gs, 0, none⟩), .agg #[.string n, .int .i64 t, .int .i64 l, v, .int .i64 r, .int .i64 u], .int .i64 now] w fun e w' => e = .returned (.int .i64 x) ∧
      ∃ mb' L', St w' gs most mb' L' ∧ fstL L' = L1 ∧ Turn (fun k => k = gs ∨ mb = some k) w w' ∧ (∀ k, foot gs mb' L' k → foot gs mb L k ∨ w.heap.size ≤ k) := by
  rw [← hx, ← h1, ← h0]
  exact put_any h n t l r u now v ds hn hr hl hs
theorem get_at {L : List (En × Value)} (hg : Good L) (n : ByteArray) (t now : Int) : getP (fstL L) n t now = match atL L (fdB n) t with | some p => if now < p.1.u then some p.1 else none | none => none := by
  unfold getP fstL
  rw [List.find?_map]
  cases ha : atL L (fdB n) t with
  | none =>
    have : L.find? ((fun y : En => sameK (fdB n) t y && decide (now < y.u)) ∘ Prod.fst) = none := by
      rw [List.find?_eq_none]
      intro p hp
      show ¬ ((sameK (fdB n) t p.1 && decide (now < p.1.u)) = true)
      rw [atL_none ha p hp]; simp
    rw [this]; rfl
  | some p =>
    obtain ⟨h1, h2, h3⟩ := atL_some ha
    simp only
    split
    · rename_i hlt
      cases hf : L.find? ((fun y : En => sameK (fdB n) t y && decide (now < y.u)) ∘ Prod.fst) with
      | none =>
        have := List.find?_eq_none.1 hf p h1
        exfalso
        apply this
        show (sameK (fdB n) t p.1 && decide (now < p.1.u)) = true
        rw [sameK_iff.2 ⟨h2, h3⟩]; simpa using hlt
      | some q =>
        have h4 := List.find?_some hf
        have h4' : (sameK (fdB n) t q.1 && decide (now < q.1.u)) = true := h4
        simp only [Bool.and_eq_true] at h4'
        have := hg.one h1 (List.mem_of_find?_eq_some hf) (by rw [h2, h3]; exact h4'.1)
        rw [this]; rfl
    · rename_i hlt
      have : L.find? ((fun y : En => sameK (fdB n) t y && decide (now < y.u)) ∘ Prod.fst) = none := by
        rw [List.find?_eq_none]
        intro q hq
        show ¬ ((sameK (fdB n) t q.1 && decide (now < q.1.u)) = true)
        intro h4
        simp only [Bool.and_eq_true, decide_eq_true_eq] at h4
        have := hg.one h1 hq (by rw [h2, h3]; exact h4.1)
        rw [this] at hlt
        exact hlt h4.2
      rw [this]; rfl
theorem get_none {w : World} {gs most : Nat} {mb : Option Nat} {L : List (En × Value)} (h : St w gs most mb L) (hp : PosL (fstL L)) (n : ByteArray) (t now : Int) (hn : n.size ≤ maxLen) (ht : (Lit.int .i64 t).wf = true) (hg : getP (fstL L) n t now = none) :
    Calls Try.prog 18 #[.pointer (some ⟨gs, 0, none⟩), .string n, .int .i64 t, .int .i64 now] w fun e w' => e = .returned (.tuple #[.agg #[.string ⟨#[]⟩, .int .i64 0, .int .i64 0, .slice none 0 0], .int .i64 0, .int .i64 1301]) ∧ Below w.heap.size w w' := by
  refine (get_any h hp.pairs n t now hn ht).mono ?_
  rintro e w' (⟨_, he, hb⟩ | ⟨p, g, ha, hlt, _⟩)
  · exact ⟨he, hb⟩
  · rw [get_at h.at'.good, ha] at hg
    simp only at hg
    rw [if_pos hlt] at hg
    cases hg
theorem get_some {w : World} {gs most : Nat} {mb : Option Nat} {L : List (En × Value)} (h : St w gs most mb L) (hp : PosL (fstL L)) (n : ByteArray) (t now : Int) (hn : n.size ≤ maxLen) (ht : (Lit.int .i64 t).wf = true) (p : En) (hg : getP (fstL L) n t now = some p) :
    Calls Try.prog 18 #[.pointer (some ⟨gs, 0, none⟩), .string n, .int .i64 t, .int .i64 now] w fun e w' => ∃ g, e = .returned (.tuple #[.agg #[.string p.n, .int .i64 p.t, .int .i64 (wrap64 (p.u - now)), .slice (some ⟨g, 0, none⟩) p.ds.length p.ds.length], .int .i64 p.r, .int .i64 0]) ∧
      w'.ownsRow w.heap.size 9 1 (.slice (some ⟨g, 0, none⟩) p.ds.length p.ds.length) p.ds.length (tC p.ds) ∧ w.heap.size ≤ g ∧ Below w.heap.size w w' := by
  refine (get_any h hp.pairs n t now hn ht).mono ?_
  rintro e w' (⟨hl, he, hb⟩ | ⟨q, g, ha, hlt, he, hr, hgg, hb⟩)
  · rw [get_at h.at'.good] at hg
    cases ha : atL L (fdB n) t with
    | none => rw [ha] at hg; cases hg
    | some q =>
      rw [ha] at hg
      simp only at hg
      unfold lvB bL uL at hl
      rw [ha] at hl
      simp only [Option.isSome_some, Bool.true_and, decide_eq_false_iff_not] at hl
      rw [if_neg hl] at hg
      cases hg
  · rw [get_at h.at'.good, ha] at hg
    simp only at hg
    rw [if_pos hlt] at hg
    cases hg
    exact ⟨g, he, hr, hgg, hb⟩

end Go.Proofs.Ytcmhjlflgedcdaa
