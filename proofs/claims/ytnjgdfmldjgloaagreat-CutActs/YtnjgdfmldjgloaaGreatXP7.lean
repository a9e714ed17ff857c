/- What add does to a row. -/
import Derived.Test.YtnjgdfmldjgloaaGreatXP6
import Derived.Deep.DeepCutAuto
namespace Go.Proofs.YtnjgdfmldjgloaaGreat
open Go.RowKit Go.Shelf
open Pl
namespace Cu

theorem infoL : (Tryz.prog.info? 112).map (fun i => (i.zero, i.size, i.bytes)) = some (some (.slice none 0 0), 1, 24) := by kernel_rfl
theorem infoS : (Tryz.prog.info? 98).map (fun i => (i.zero, i.size, i.bytes)) = some (some (.agg #[.int .i64 0, .int .i64 0]), 2, 16) := by kernel_rfl
set_option maxRecDepth 20000 in
set_option maxHeartbeats 2000000 in
theorem add_any {w : World} {b0 : CB} {c : Ct} (h : CutAt w b0 c) (x : Bd) (hn : c.bs.length < 256) :
    Calls Tryz.prog 79 #[.pointer (some ⟨b0.g, 3, none⟩), .agg #[.int .i64 (x.h : Int), .int .i64 x.a, .int .i64 x.u]] w fun e w' => e = .returned (.tuple #[]) ∧ ∃ b', RawAt w' b' { c with bs := c.bs ++ [x] } (lvls ((c.bs ++ [x]).map Bd.u)) ∧ b'.g = b0.g ∧ b'.hv = b0.hv ∧ Turn (wfoot b0) w w' ∧ ∀ k, wfoot b' k → wfoot b0 k ∨ w.heap.size ≤ k := by
  obtain ⟨iS, hiS, hzS0, hzS1, hzS2⟩ := info_parts infoS
  obtain ⟨iL, hiL, hzL0, hzL1, hzL2⟩ := info_parts infoL
  obtain ⟨N, hN⟩ : ∃ N, N = c.bs.length := ⟨_, rfl⟩
  have HN : Hid (N = c.bs.length) := hN
  have HA0 : Hid (AD w (w.alloc (.cells #[.int .i64 (x.h : Int), .int .i64 x.a, .int .i64 x.u] 100)) (wfoot b0) b0 c (lvls (c.bs.map Bd.u)) x) := ad_start h.raw x
  have hho := (ad_start h.raw x).raw.held
  have hto := (ad_start h.raw x).raw.til
  obtain ⟨us, hus⟩ : ∃ us, us = c.bs.map Bd.u := ⟨_, rfl⟩
  have HUL : Hid (us.length = N) := by unfold Hid; rw [hus, hN]; simp
  have HNA : Hid (postL (raiseA (preL (lvls us)) N x.u) = lvls ((c.bs ++ [x]).map Bd.u)) := by
    unfold Hid
    rw [← HUL.out, lvls_add us x.u (by rw [HUL.out, hN]; exact hn), hus, List.map_append]; rfl
  have HNI : Hid (inL (preL (lvls us)) N) := by unfold Hid; rw [← HUL.out]; exact lvls_in us
  have HXL : Hid (∀ y ∈ preL (lvls us), y.length ≤ 256) := pre_len us (by rw [HUL.out, hN]; exact hn)
  have HX2 : Hid ((preL (lvls us)).length ≤ 2) := pre_two us
  have HTOP : Hid (∀ t, (raiseA (preL (lvls us)) N x.u).getLast? = some t → 16 < t.length → t.length = 17) := by unfold Hid; rw [← HUL.out]; exact top17 us x.u (by rw [HUL.out, hN]; exact hn)
  rw [← hus] at HA0
  rw [← hN] at hn hho
  obtain ⟨LV, hLV⟩ : ∃ LV, LV = lvls ((c.bs ++ [x]).map Bd.u) := ⟨_, rfl⟩
  rw [← hLV] at HNA ⊢
  clear h hus hN hLV
  obtain ⟨xh, xa, xu⟩ := x
  simp only at HA0 HNA HTOP hho hto ⊢
  generalize wfoot b0 = F at HA0 ⊢
  obtain ⟨g, hv0, sv, uv, ls⟩ := b0
  simp only at hho hto ⊢
  obtain ⟨ys, cs, rfl⟩ := row_shape hho
  obtain ⟨yu, cu, rfl⟩ := row_shape hto
  obtain ⟨m, hm⟩ : ∃ m, m = ls.length := ⟨_, rfl⟩
  have HTO : Hid ((w.alloc (.cells #[.int .i64 (xh : Int), .int .i64 xa, .int .i64 xu] 100)).ownsRow 0 112 1 (.slice yu m cu) m ls) := by unfold Hid; rw [hm]; exact hto
  rw [← hm] at HA0
  have HM : Hid (m = ls.length) := hm
  clear hm hto hho
  by_cases h0 : us.length = 0
  · have e1 : lvls us = [] := by unfold lvls; rw [if_pos h0]
    rw [e1] at HA0 HNA HNI HXL HTOP HX2
    have hl0 : ls.length = 0 := HA0.out.raw.lv.1
    have hl : ls = [] := List.eq_nil_of_length_eq_zero hl0
    have hm0 : m = 0 := HM.out.trans hl0
    subst hl hm0
    obtain ⟨c4, f4⟩ := HA0.out.c4
    simp only at c4 f4
    have KL : Hid (∀ (w2 : World) (v' : Value), w2.ownsRow 0 112 1 v' (0 + 1) ([] ++ [.slice none 0 0]) → ((w.alloc (.cells #[.int .i64 (xh : Int), .int .i64 xa, .int .i64 xu] 100)).alloc (.cells #[.slice none 0 0] 112)).grownBy w2 (Value.slice yu 0 cu).ownBlock → (∀ k, v'.ownBlock = some k → (Value.slice yu 0 cu).ownBlock = some k ∨ (w.alloc (.cells #[.int .i64 (xh : Int), .int .i64 xa, .int .i64 xu] 100)).heap.size ≤ k) → AD w (w2.setCell ⟨g, 4, none⟩ v') F ⟨g, hv0, .slice ys N cs, v', [.slice none 0 0]⟩ c (preL []) ⟨xh, xa, xu⟩) := fun w2 v' ow hg hv' => by
      obtain ⟨h1, h2, h3⟩ := HA0.out.raw.til_app (lay (Below.refl _ _) _) (y := .slice none 0 0) (us' := []) (World.ownsRow_nil _ _ _ _) (fun k hk => by simp [Value.ownBlock] at hk) ow hg hv'
      exact HA0.out.step h1 h2 h3
    have KC : Hid (∀ (w2 : World) (v' : Value), ((w.alloc (.cells #[.int .i64 (xh : Int), .int .i64 xa, .int .i64 xu] 100)).alloc (.cells #[.slice none 0 0] 112)).grownBy w2 (Value.slice yu 0 cu).ownBlock → w2.cell? ⟨g, 4, none⟩ = some (.slice yu 0 cu) ∧ w2.frozen? ⟨g, 4, none⟩ = false) := fun w2 v' hg => by
      have hb := (HA0.out.raw.blk.alloc (.cells #[.slice none 0 0] 112)).grown hg (fun e => HA0.out.raw.tags.2.2.1 e.symm)
      exact ⟨hb.cell 4, hb.frozen 4⟩
    have kB := Blk.new (w.alloc (.cells #[.int .i64 (xh : Int), .int .i64 xa, .int .i64 xu] 100)) #[.slice none 0 0] 112
    rw [World.size_alloc] at kB
    go_enter Tryz.func79, Tryz.ntmps79
    go_wp2_with (first
      | (at_builtin; go_must (refine wpList_appG _ rfl (.tmp 17) (.tmp 18) 91 112 iL _ 1 24 Tryz.underlying91 hiL hzL0 hzL1 hzL2 rfl (by decide) rfl 0 _ 0 [] rfl (HTO.out.alloc _) (.slice (some ⟨w.heap.size + 1, 0, none⟩) 1 1) 1 [.slice none 0 0] rfl (Row.of_blk kB rfl 1 1) rfl (by simp [Value.oneCell']) (by omega) (by unfold maxLen; omega) (Nat.zero_le _) ?_); intro v2 w2 h1 h3 h4; have HA2 := KL.out w2 v2 h1 h3 (fun k hk => (h4 k hk).imp id (fun h => by rw [World.size_alloc] at h; omega)); obtain ⟨c42, f42⟩ := KC.out w2 v2 h3; obtain ⟨y2, cc2, rfl⟩ := row_shape h1; have HAD : Hid _ := HA2; obtain ⟨c3, f3⟩ := HA2.c3; simp only at c3; clear HA2 h1 h3 h4)
      | go_in)
    clear KL KC kB c4 f4 c42 f42 c3 f3 HA0 HTO
    generalize w2.setCell ⟨g, 4, none⟩ (.slice y2 (0 + 1) cc2) = W at HAD ⊢
    replace HM : Hid (1 = [Value.slice none 0 0].length) := rfl
    generalize [Value.slice none 0 0] = ls at HAD HM ⊢
    generalize preL [] = XS at HAD HNI HNA HXL HTOP HX2 ⊢
    obtain ⟨m, hm⟩ : ∃ m, m = 0 + 1 := ⟨_, rfl⟩
    have hm1 : 1 ≤ m := by omega
    rw [← hm] at HAD
    replace HM : Hid (m = ls.length) := by unfold Hid; rw [hm]; exact HM.out
    clear hm hl0 e1 h0
    revert HAD
    generalize y2 = yu
    generalize cc2 = cu
    intro HAD
    have hsz : w.heap.size ≤ W.heap.size := HAD.out.turn.size
    have kS : Blk ((W.alloc (.cells #[.int .i64 (xh : Int), .int .i64 xa] 98)).drew) W.heap.size #[.int .i64 (xh : Int), .int .i64 xa] 98 := Blk.new W _ _
    have HSO : Hid (((W.alloc (.cells #[.int .i64 (xh : Int), .int .i64 xa] 98)).drew).ownsRow 0 98 2 (.slice ys N cs) N (sC c.bs)) := by
      have := own_past HAD.out.raw.held ((lay (Below.refl W.heap.size W) (.cells #[.int .i64 (xh : Int), .int .i64 xa] 98)).drew)
      rw [← HN.out] at this
      exact this
    have KH : Hid (∀ (w2 : World), ((W.alloc (.cells #[.int .i64 (xh : Int), .int .i64 xa] 98)).drew).grownBy w2 (Value.slice ys N cs).ownBlock → w2.cell? ⟨g, 3, none⟩ = some (.slice ys N cs) ∧ w2.frozen? ⟨g, 3, none⟩ = false) := fun w2 hg => by
      have hb := (HAD.out.raw.blk.below ((lay (Below.refl W.heap.size W) (.cells #[.int .i64 (xh : Int), .int .i64 xa] 98)).drew)).grown hg (fun e => HAD.out.raw.tags.2.1 e.symm)
      exact ⟨hb.cell 3, hb.frozen 3⟩
    have KHA : Hid (∀ (w2 : World) (v' : Value), w2.ownsRow 0 98 2 v' (N + 1) (sC c.bs ++ [.int .i64 (xh : Int), .int .i64 xa]) → ((W.alloc (.cells #[.int .i64 (xh : Int), .int .i64 xa] 98)).drew).grownBy w2 (Value.slice ys N cs).ownBlock → (∀ k, v'.ownBlock = some k → (Value.slice ys N cs).ownBlock = some k ∨ ((W.alloc (.cells #[.int .i64 (xh : Int), .int .i64 xa] 98)).drew).heap.size ≤ k) → AD w (w2.setCell ⟨g, 3, none⟩ v') F ⟨g, hv0, v', .slice yu m cu, ls⟩ { c with bs := c.bs ++ [⟨xh, xa, xu⟩] } XS ⟨xh, xa, xu⟩) := fun w2 v' ow hg hv' => by
      have hkk : ∀ k, ((W.alloc (.cells #[.int .i64 (xh : Int), .int .i64 xa] 98)).drew).heap.size ≤ k → W.heap.size ≤ k := fun k h => by
        have : W.heap.size + 1 ≤ k := by simpa using h
        omega
      rw [HN.out] at ow
      obtain ⟨h1, h2, h3⟩ := HAD.out.raw.held_app ((lay (Below.refl W.heap.size W) (.cells #[.int .i64 (xh : Int), .int .i64 xa] 98)).drew) (x := ⟨xh, xa, xu⟩) ow hg (fun k hk => (hv' k hk).imp id (fun h => hkk k h))
      exact HAD.out.step h1 h2 h3
    obtain ⟨c3, f3⟩ := HAD.out.c3
    simp only at c3 f3
    have d0 : W.drew.cell? ⟨w.heap.size, 0, none⟩ = some (.int .i64 (xh : Int)) := HAD.out.bx.1
    have d1 : W.drew.cell? ⟨w.heap.size, 1, none⟩ = some (.int .i64 xa) := HAD.out.bx.2.1
    have c3d : W.drew.cell? ⟨g, 3, none⟩ = some (.slice ys N cs) := c3
    have c3a : ((W.alloc (.cells #[.int .i64 (xh : Int), .int .i64 xa] 98)).drew).cell? ⟨g, 3, none⟩ = some (.slice ys N cs) := by
      have := (HAD.out.below ((lay (Below.refl W.heap.size W) (.cells #[.int .i64 (xh : Int), .int .i64 xa] 98)).drew)).c3.1
      exact this
    go_cut [35] (fun z wx => ∃ y5 c5, z = .slice y5 (N + 1) c5 ∧ Hid (AD w wx F ⟨g, hv0, .slice y5 (N + 1) c5, .slice yu m cu, ls⟩ { c with bs := c.bs ++ [⟨xh, xa, xu⟩] } XS ⟨xh, xa, xu⟩))
    case first =>
      go_region_law ((refine step_appG _ (by rfl) (.tmp 31) (.tmp 34) 90 98 iS _ 2 16 Tryz.underlying90 hiS hzS0 hzS1 hzS2 rfl (by decide) (by rfl) 0 _ N (sC c.bs) (by rfl) HSO.out (.slice (some ⟨W.heap.size, 0, none⟩) 1 1) 1 [.int .i64 (xh : Int), .int .i64 xa] (by rfl) (Row.of_blk kS rfl 1 1) rfl (by simp [Value.oneCell']) (by omega) (by unfold maxLen; omega) (Nat.zero_le _) ?_; intro v2 w2 h1 h3 h4; obtain ⟨e3, g3⟩ := KH.out w2 h3; obtain ⟨y5, c5, rfl⟩ := row_shape h1; have HA5 : Hid (AD w (w2.setCell ⟨g, 3, none⟩ (.slice y5 (N + 1) c5)) F ⟨g, hv0, .slice y5 (N + 1) c5, .slice yu m cu, ls⟩ { c with bs := c.bs ++ [⟨xh, xa, xu⟩] } XS ⟨xh, xa, xu⟩) := KHA.out w2 _ h1 h3 h4; clear h1 h3 h4))
      all_goals (go_wp2_with fail; go_meet; exact ⟨_, _, rfl, HA5⟩)
    case rest =>
      clear HAD kS HSO KH KHA c3 f3 d0 d1 c3d c3a
      obtain ⟨y5, c5, rfl, HA5⟩ := hcut
      obtain ⟨e4, _⟩ := HA5.out.c4
      simp only at e4
      have HXM : Hid (XS.length = m) := by unfold Hid; rw [HM.out]; exact HA5.out.raw.lv.1.symm
      have hm2 : m ≤ 2 := by rw [← HXM.out]; exact HX2.out
      go_wp2
      go_loopw [4, 43] (fun A i wr => ∃ (j a : Nat) (ls' : List Value) (XS' : List (List Int)), j ≤ m ∧ i = .int .i64 (j : Int) ∧ A = .int .i64 (a : Int) ∧ Hid (AD w wr F ⟨g, hv0, .slice y5 (N + 1) c5, .slice yu m cu, ls'⟩ { c with bs := c.bs ++ [⟨xh, xa, xu⟩] } XS' ⟨xh, xa, xu⟩) ∧ Hid (ls'.length = m ∧ RA XS N xu j a XS')) (fun _ i _ => m - (intOf i).toNat)
      case atStart => exact ⟨0, N, ls, XS, Nat.zero_le _, rfl, rfl, HA5, ⟨HM.out.symm, ra_start HNI.out⟩⟩
      case round =>
        clear HA5 e4
        obtain ⟨j, a, ls', XS', hjm, rfl, rfl, HA, HR⟩ := hrel
        by_cases hj : j < m
        · have hjm' : (j : Int) < (m : Int) := by omega
          obtain ⟨y, hy1, hy2, hay, HR2⟩ := ra_step HR.out.2 (by rw [HXM.out]; exact hj)
          have hyl : y.length ≤ 256 := HXL.out y (by rw [hy2]; exact List.getElem_mem _)
          obtain ⟨v, hv1, hv2⟩ := HA.out.raw.lv.at hy1
          simp only at hv1
          have hto := HA.out.raw.til
          simp only [HR.out.1] at hto
          obtain ⟨gu, cap, hform, _, _⟩ := hto.form (by omega)
          simp only [Value.slice.injEq, true_and] at hform
          obtain ⟨rfl, rfl⟩ := hform
          have hcj := (lies_own hto).1 j v hv1
          have hfj := hto.frozenAt j
          have e4 : wr.drew.cell? ⟨g, 4, none⟩ = some (.slice (some ⟨gu, 0, none⟩) m cu) := HA.out.c4.1
          have ex : wr.drew.cell? ⟨w.heap.size, 2, none⟩ = some (.int .i64 xu) := HA.out.bx.2.2
          have ev : wr.drew.cell? ⟨gu, j, none⟩ = some v := by simpa using hcj
          have HV2 : Hid (wr.drew.ownsRow 0 3 1 v y.length (iC y)) := own_past hv2 (Below.refl _ _).drew
          have HAd : Hid (AD w wr.drew F ⟨g, hv0, .slice y5 (N + 1) c5, .slice (some ⟨gu, 0, none⟩) m cu, ls'⟩ { c with bs := c.bs ++ [⟨xh, xa, xu⟩] } XS' ⟨xh, xa, xu⟩) := HA.out.below (Below.refl _ _).drew
          have HNX : Hid (∀ (w5 : World) (v' : Value), w5.ownsRow 0 3 1 v' (raiseL y a xu).length (iC (raiseL y a xu)) → Turn (fun k => v.ownBlock = some k) wr.drew w5 → (∀ k, v'.ownBlock = some k → v.ownBlock = some k ∨ wr.drew.heap.size ≤ k) → AD w (w5.setCell ⟨gu, j, none⟩ v') F ⟨g, hv0, .slice y5 (N + 1) c5, .slice (some ⟨gu, 0, none⟩) m cu, ls'.set j v'⟩ { c with bs := c.bs ++ [⟨xh, xa, xu⟩] } (XS'.set j (raiseL y a xu)) ⟨xh, xa, xu⟩ ∧ (w5.cell? ⟨gu, j, none⟩ = some v ∧ w5.frozen? ⟨gu, j, none⟩ = false) ∧ w5.cell? ⟨g, 4, none⟩ = some (.slice (some ⟨gu, 0, none⟩) m cu) ∧ w5.cell? ⟨w.heap.size, 2, none⟩ = some (.int .i64 xu)) := fun w5 v' ho ht hn => by
            have hraw := HAd.out.raw
            have hmem := List.mem_of_getElem? hv1
            obtain ⟨h1, h2, h3⟩ := hraw.lv_set (i := j) hv1 ht ho hn (gu := gu) (cap := cu) (by show Value.slice _ _ _ = Value.slice _ _ _; rw [HR.out.1])
            have til5 : w5.ownsRow 0 112 1 (.slice (some ⟨gu, 0, none⟩) m cu) m ls' := by
              have := ht.row hraw.til (fun k hk e => hraw.lv_far hmem hraw.til (by decide) k e hk)
              rw [HR.out.1] at this
              exact this
            have blk5 := ht.blk hraw.blk (hraw.tags.2.2.2 v hmem)
            have box5 := ht.blk HAd.out.box (fun e => hraw.apart HAd.out.box (by decide) (by decide) (by decide) (by decide) (.inr (.inr (.inr ⟨v, hmem, e⟩))))
            refine ⟨HAd.out.step h1 h2 h3, ⟨?_, til5.frozenAt j⟩, blk5.cell 4, box5.cell 2⟩
            have := (lies_own til5).1 j v hv1
            simpa using this
          have HR3 : Hid (∀ v' : Value, (ls'.set j v').length = m ∧ RA XS N xu (j + 1) (a / 16) (XS'.set j (raiseL y a xu))) := fun v' => ⟨by rw [List.length_set]; exact HR.out.1, HR2⟩
          obtain ⟨yv, cv, rfl⟩ := row_shape hv2
          have hrs := raise_any (.slice yv y.length cv) y a xu wr.drew HV2.out hay (by omega)
          have ha256 : a ≤ 256 := by omega
          clear hto hcj hfj hv1 hv2 hy1 hy2 HR2 HAd HA HV2
          go_wp2
          refine wp_region_held_drew (S := fun u => u.cell? ⟨g, 4, none⟩ = some (.slice (some ⟨gu, 0, none⟩) m cu) ∧ u.cell? ⟨w.heap.size, 2, none⟩ = some (.int .i64 xu)) (by kernel_rfl) ⟨e4, ex⟩ (fun hHeld => ?_)
          refine wpAnyH_take (i := 0) (v := .pointer (some ⟨g, 3, none⟩)) rfl (by kernel_rfl) (by kernel_rfl) (by kernel_rfl) (fun _ _ _ h => h) (Or.inl ⟨by rfl, ?_⟩) hHeld ?_
          · intro u hu
            go_simp
          simp only [Act.put, List.getElem_toArray, List.getElem_cons_zero, List.setIfInBounds_toArray, List.set_cons_zero, List.set_cons_succ]
          refine wpAnyH_take (i := 1) (v := .pointer (some ⟨g, 3, none⟩)) rfl (by kernel_rfl) (by kernel_rfl) (by kernel_rfl) (fun _ _ _ h => h) (Or.inl ⟨by rfl, ?_⟩) hHeld ?_
          · intro u hu
            go_simp
          simp only [Act.put, List.getElem_toArray, List.getElem_cons_succ, List.getElem_cons_zero, List.setIfInBounds_toArray, List.set_cons_zero, List.set_cons_succ]
          refine wpAnyH_take (i := 2) (v := .pointer (some ⟨g, 4, none⟩)) rfl (by kernel_rfl) (by kernel_rfl) (by kernel_rfl) (fun _ _ _ h => h) (Or.inl ⟨by rfl, ?_⟩) hHeld ?_
          · intro u hu
            go_simp
          simp only [Act.put, List.getElem_toArray, List.getElem_cons_succ, List.getElem_cons_zero, List.setIfInBounds_toArray, List.set_cons_zero, List.set_cons_succ]
          refine wpAnyH_take (i := 3) (v := .slice (some ⟨gu, 0, none⟩) m cu) rfl (by kernel_rfl) (by kernel_rfl) (by kernel_rfl) (fun _ _ _ h => h) (Or.inl ⟨by rfl, ?_⟩) hHeld ?_
          · intro u hu
            obtain ⟨u0, u1⟩ := hu
            go_simp
          simp only [Act.put, List.getElem_toArray, List.getElem_cons_succ, List.getElem_cons_zero, List.setIfInBounds_toArray, List.set_cons_zero, List.set_cons_succ]
          refine wpAnyH_take (i := 4) (v := .int .i64 (j : Int)) rfl (by kernel_rfl) (by kernel_rfl) (by kernel_rfl) (fun _ _ _ h => h) (Or.inl ⟨by rfl, ?_⟩) hHeld ?_
          · intro u hu
            go_simp
          simp only [Act.put, List.getElem_toArray, List.getElem_cons_succ, List.getElem_cons_zero, List.setIfInBounds_toArray, List.set_cons_zero, List.set_cons_succ]
          refine wpAnyH_take (i := 5) (v := .pointer (some ⟨g, 3, none⟩)) rfl (by kernel_rfl) (by kernel_rfl) (by kernel_rfl) (fun _ _ _ h => h) (Or.inl ⟨by rfl, ?_⟩) hHeld ?_
          · intro u hu
            go_simp
          simp only [Act.put, List.getElem_toArray, List.getElem_cons_succ, List.getElem_cons_zero, List.setIfInBounds_toArray, List.set_cons_zero, List.set_cons_succ]
          refine wpAnyH_take (i := 6) (v := .pointer (some ⟨g, 3, none⟩)) rfl (by kernel_rfl) (by kernel_rfl) (by kernel_rfl) (fun _ _ _ h => h) (Or.inl ⟨by rfl, ?_⟩) hHeld ?_
          · intro u hu
            go_simp
          simp only [Act.put, List.getElem_toArray, List.getElem_cons_succ, List.getElem_cons_zero, List.setIfInBounds_toArray, List.set_cons_zero, List.set_cons_succ]
          refine wpAnyH_take (i := 7) (v := .pointer (some ⟨g, 4, none⟩)) rfl (by kernel_rfl) (by kernel_rfl) (by kernel_rfl) (fun _ _ _ h => h) (Or.inl ⟨by rfl, ?_⟩) hHeld ?_
          · intro u hu
            go_simp
          simp only [Act.put, List.getElem_toArray, List.getElem_cons_succ, List.getElem_cons_zero, List.setIfInBounds_toArray, List.set_cons_zero, List.set_cons_succ]
          refine wpAnyH_take (i := 8) (v := .slice (some ⟨gu, 0, none⟩) m cu) rfl (by kernel_rfl) (by kernel_rfl) (by kernel_rfl) (fun _ _ _ h => h) (Or.inl ⟨by rfl, ?_⟩) hHeld ?_
          · intro u hu
            obtain ⟨u0, u1⟩ := hu
            go_simp
          simp only [Act.put, List.getElem_toArray, List.getElem_cons_succ, List.getElem_cons_zero, List.setIfInBounds_toArray, List.set_cons_zero, List.set_cons_succ]
          refine wpAnyH_take (i := 9) (v := .int .i64 (j : Int)) rfl (by kernel_rfl) (by kernel_rfl) (by kernel_rfl) (fun _ _ _ h => h) (Or.inl ⟨by rfl, ?_⟩) hHeld ?_
          · intro u hu
            go_simp
          simp only [Act.put, List.getElem_toArray, List.getElem_cons_succ, List.getElem_cons_zero, List.setIfInBounds_toArray, List.set_cons_zero, List.set_cons_succ]
          refine wpAnyH_take (i := 10) (v := .pointer (some ⟨gu, j, none⟩)) rfl (by kernel_rfl) (by kernel_rfl) (by kernel_rfl) (fun _ _ _ h => h) (Or.inl ⟨by rfl, ?_⟩) hHeld ?_
          · intro u hu
            go_simp
          simp only [Act.put, List.getElem_toArray, List.getElem_cons_succ, List.getElem_cons_zero, List.setIfInBounds_toArray, List.set_cons_zero, List.set_cons_succ]
          refine wpAnyH_take (i := 12) (v := .int .i64 (a : Int)) rfl (by kernel_rfl) (by kernel_rfl) (by kernel_rfl) (fun _ _ _ h => h) (Or.inl ⟨by rfl, ?_⟩) hHeld ?_
          · intro u hu
            go_simp
          simp only [Act.put, List.getElem_toArray, List.getElem_cons_succ, List.getElem_cons_zero, List.setIfInBounds_toArray, List.set_cons_zero, List.set_cons_succ]
          refine wpAnyH_take (i := 13) (v := .pointer (some ⟨w.heap.size, 2, none⟩)) rfl (by kernel_rfl) (by kernel_rfl) (by kernel_rfl) (fun _ _ _ h => h) (Or.inl ⟨by rfl, ?_⟩) hHeld ?_
          · intro u hu
            go_simp
          simp only [Act.put, List.getElem_toArray, List.getElem_cons_succ, List.getElem_cons_zero, List.setIfInBounds_toArray, List.set_cons_zero, List.set_cons_succ]
          refine wpAnyH_take (i := 14) (v := .int .i64 xu) rfl (by kernel_rfl) (by kernel_rfl) (by kernel_rfl) (fun _ _ _ h => h) (Or.inl ⟨by rfl, ?_⟩) hHeld ?_
          · intro u hu
            obtain ⟨u0, u1⟩ := hu
            go_simp
          simp only [Act.put, List.getElem_toArray, List.getElem_cons_succ, List.getElem_cons_zero, List.setIfInBounds_toArray, List.set_cons_zero, List.set_cons_succ]
          refine wpAnyH_ready (rs := [11]) (by kernel_rfl) (by simp) ?_
          refine AllReadyH.cons rfl (fun K hK => ?_) AllReadyH.nil
          go_simp
          refine hK.out _ _ hHeld (fun hHeld => ?_)
          clear hK K
          refine wpAnyH_ready (rs := [15]) (by kernel_rfl) (by simp) ?_
          refine AllReadyH.cons rfl (fun K hK => ?_) AllReadyH.nil
          go_simp
          refine hrs.mono ?_
          rintro e w5 ⟨v', rfl, ho', ht', hn'⟩
          obtain ⟨HA6, ⟨q1, q2⟩, q3, q4⟩ := HNX.out w5 v' ho' ht' hn'
          obtain ⟨yv', cv', rfl⟩ := row_shape ho'
          have s4 := HA6.c4.1
          have sx := HA6.bx.2.2
          simp only at s4 sx
          have HA7 : Hid _ := HA6
          clear ho' ht' hn' HNX HA6 hHeld
          go_simp
          refine hK.out _ _ ⟨q3, q4⟩ (fun hHeld => ?_)
          clear hK K
          refine wpAnyH_take (i := 16) (v := .pointer (some ⟨gu, j, none⟩)) rfl (by kernel_rfl) (by kernel_rfl) (by kernel_rfl) (fun _ _ _ h => h) (Or.inl ⟨by rfl, ?_⟩) hHeld ?_
          · intro u hu
            go_simp
          simp only [Act.put, List.getElem_toArray, List.getElem_cons_succ, List.getElem_cons_zero, List.setIfInBounds_toArray, List.set_cons_zero, List.set_cons_succ]
          refine wpAnyH_ready (rs := [17]) (by kernel_rfl) (by simp) ?_
          refine AllReadyH.cons rfl (fun K hK => ?_) AllReadyH.nil
          go_simp
          refine hK.out _ _ ⟨s4, sx⟩ (fun hHeld => ?_)
          clear hK K
          refine wpAnyH_done (by kernel_rfl) ?_ _
          go_wp2
          go_roundw
          case rel => exact ⟨j + 1, a / 16, _, _, by omega, by go_num, by go_num, HA7, HR3.out _⟩
          case measure => simp [intOf]; omega
        · have hjm' : decide (j < m) = false := by simpa using hj
          have hXe : XS' = raiseA XS N xu := ra_end HR.out.2 (by rw [HXM.out]; omega)
          have hXl : XS'.length = m := by rw [← HXM.out]; exact ra_len HR.out.2 (by rw [HXM.out]; omega)
          obtain ⟨t, ht⟩ : ∃ t, XS'[m - 1]? = some t := ⟨_, List.getElem?_eq_getElem (by omega)⟩
          have htl : XS'.getLast? = some t := by rw [List.getLast?_eq_getElem?, hXl]; exact ht
          obtain ⟨v, hv1, hv2⟩ := HA.out.raw.lv.at ht
          simp only at hv1
          have hto := HA.out.raw.til
          simp only [HR.out.1] at hto
          obtain ⟨gu, cap, hform, _, _⟩ := hto.form (by omega)
          simp only [Value.slice.injEq, true_and] at hform
          obtain ⟨rfl, rfl⟩ := hform
          have ev : wr.drew.cell? ⟨gu, m - 1, none⟩ = some v := by
            have := (lies_own hto).1 (m - 1) v hv1
            simpa using this
          have e4 : wr.drew.cell? ⟨g, 4, none⟩ = some (.slice (some ⟨gu, 0, none⟩) m cu) := HA.out.c4.1
          have HAd : Hid (AD w wr.drew F ⟨g, hv0, .slice y5 (N + 1) c5, .slice (some ⟨gu, 0, none⟩) m cu, ls'⟩ { c with bs := c.bs ++ [⟨xh, xa, xu⟩] } XS' ⟨xh, xa, xu⟩) := HA.out.below (Below.refl _ _).drew
          have HV2 : Hid (wr.drew.ownsRow 0 3 1 v t.length (iC t)) := own_past hv2 (Below.refl _ _).drew
          obtain ⟨yv, cv, rfl⟩ := row_shape hv2
          have hmi : ((m : Int) - 1).toNat = m - 1 := by omega
          by_cases h16 : 16 < t.length
          · have h17 : t.length = 17 := HTOP.out t (by rw [← hXe]; exact htl) h16
            have HF : Hid (LV = XS' ++ [lvl1 t]) := by unfold Hid; rw [← HNA.out, ← hXe, post_yes htl h16]
            have HT2 : Hid ((lvl1 t).length = 2) := by unfold Hid; rw [lvl1_len, h17]; rfl
            have HLS : Hid (ls'.length = m) := HR.out.1
            rw [h17] at HV2
            obtain ⟨gv, cap, hform, _, _⟩ := HV2.out.form (by omega)
            simp only [Value.slice.injEq] at hform
            obtain ⟨rfl, -, rfl⟩ := hform
            rw [h17] at ev
            have HT17 : Hid (t.length = 17) := h17
            clear hto hv1 hv2 ht htl hXe hXl HA HR hj h17 h16
            go_wp2
            go_region
            go_wp2
            revert HAd HV2
            generalize wr.drew = Y
            intro HAd HV2
            have HAy : Hid (AD w Y.drew F ⟨g, hv0, .slice y5 (N + 1) c5, .slice (some ⟨gu, 0, none⟩) m cu, ls'⟩ { c with bs := c.bs ++ [⟨xh, xa, xu⟩] } XS' ⟨xh, xa, xu⟩) := HAd.out.below (Below.refl _ _).drew
            have hgr := greatest_any gv cv t HT17.out Y.drew (own_past HV2.out (Below.refl _ _).drew)
            have c4y : Y.drew.cell? ⟨g, 4, none⟩ = some (.slice (some ⟨gu, 0, none⟩) m cu) := HAy.out.c4.1
            refine wp_region_held_drew (S := fun _ => True) (by kernel_rfl) trivial (fun hHeld => ?_)
            refine wpAnyH_take (i := 0) (v := .pointer (some ⟨g, 3, none⟩)) rfl (by kernel_rfl) (by kernel_rfl) (by kernel_rfl) (fun _ _ _ h => h) (Or.inl ⟨by rfl, ?_⟩) hHeld ?_
            · intro u hu
              go_simp
            simp only [Act.put, List.getElem_toArray, List.getElem_cons_zero, List.setIfInBounds_toArray, List.set_cons_zero, List.set_cons_succ]
            refine wpAnyH_take (i := 1) (v := .pointer (some ⟨g, 3, none⟩)) rfl (by kernel_rfl) (by kernel_rfl) (by kernel_rfl) (fun _ _ _ h => h) (Or.inl ⟨by rfl, ?_⟩) hHeld ?_
            · intro u hu
              go_simp
            simp only [Act.put, List.getElem_toArray, List.getElem_cons_succ, List.getElem_cons_zero, List.setIfInBounds_toArray, List.set_cons_zero, List.set_cons_succ]
            refine wpAnyH_take (i := 2) (v := .pointer (some ⟨g, 3, none⟩)) rfl (by kernel_rfl) (by kernel_rfl) (by kernel_rfl) (fun _ _ _ h => h) (Or.inl ⟨by rfl, ?_⟩) hHeld ?_
            · intro u hu
              go_simp
            simp only [Act.put, List.getElem_toArray, List.getElem_cons_succ, List.getElem_cons_zero, List.setIfInBounds_toArray, List.set_cons_zero, List.set_cons_succ]
            refine wpAnyH_take (i := 3) (v := .pointer (some ⟨g, 4, none⟩)) rfl (by kernel_rfl) (by kernel_rfl) (by kernel_rfl) (fun _ _ _ h => h) (Or.inl ⟨by rfl, ?_⟩) hHeld ?_
            · intro u hu
              go_simp
            simp only [Act.put, List.getElem_toArray, List.getElem_cons_succ, List.getElem_cons_zero, List.setIfInBounds_toArray, List.set_cons_zero, List.set_cons_succ]
            refine wpAnyH_take (i := 5) (v := .slice (some ⟨gv, 0, none⟩) 17 cv) rfl (by kernel_rfl) (by kernel_rfl) (by kernel_rfl) (fun _ _ _ h => h) (Or.inl ⟨by rfl, ?_⟩) hHeld ?_
            · intro u hu
              go_simp
            simp only [Act.put, List.getElem_toArray, List.getElem_cons_succ, List.getElem_cons_zero, List.setIfInBounds_toArray, List.set_cons_zero, List.set_cons_succ]
            refine wpAnyH_ready (rs := [4, 6]) (by kernel_rfl) (by simp) ?_
            refine AllReadyH.cons rfl (fun K hK => ?_) (AllReadyH.cons rfl (fun K hK => ?_) AllReadyH.nil)
            ·
              go_simp
              refine hK.out _ _ trivial (fun hHeld => ?_)
              clear hK K
              refine wpAnyH_ready (rs := [6]) (by kernel_rfl) (by simp) ?_
              refine AllReadyH.cons rfl (fun K hK => ?_) AllReadyH.nil
              go_simp
              refine hgr.mono ?_
              rintro e w5 ⟨v5, rfl, ho5, hb5⟩
              obtain ⟨y9, c9, rfl⟩ := row_shape ho5
              have q4 : w5.cell? ⟨g, 4, none⟩ = some (.slice (some ⟨gu, 0, none⟩) m cu) := ((HAy.out.below hb5).c4.1)
              have q5 : (w5.alloc (.cells #[.slice y9 2 c9] 112)).cell? ⟨g, 4, none⟩ = some (.slice (some ⟨gu, 0, none⟩) m cu) := ((HAy.out.below (lay hb5 _)).c4.1)
              go_simp
              refine hK.out _ _ trivial (fun hHeld => ?_)
              clear hK K
              refine wpAnyH_ready (rs := [7]) (by kernel_rfl) (by simp) ?_
              refine AllReadyH.cons rfl (fun K hK => ?_) AllReadyH.nil
              go_simp
              refine hK.out _ _ trivial (fun hHeld => ?_)
              clear hK K
              have kX := Blk.new w5 #[.slice y9 2 c9] 112
              have hb6 : Below Y.drew.heap.size Y.drew (w5.alloc (.cells #[.slice y9 2 c9] 112)) := lay hb5 _
              have hto6 : (w5.alloc (.cells #[.slice y9 2 c9] 112)).ownsRow 0 112 1 (.slice (some ⟨gu, 0, none⟩) m cu) m ls' := by
                have := (HAy.out.below hb6).raw.til
                rw [HLS.out] at this
                exact this
              refine wpAnyH_ready (rs := [8]) (by kernel_rfl) (by simp) ?_
              refine AllReadyH.cons rfl (fun K hK => ?_) AllReadyH.nil
              refine step_appG _ rfl (.tmp 85) (.tmp 88) 91 112 iL _ 1 24 Tryz.underlying91 hiL hzL0 hzL1 hzL2 rfl (by decide) rfl 0 _ m ls' rfl hto6 (.slice (some ⟨w5.heap.size, 0, none⟩) 1 1) 1 [.slice y9 2 c9] rfl (Row.of_blk kX rfl 1 1) rfl (by simp [Value.oneCell']) (by omega) (by unfold maxLen; omega) (Nat.zero_le _) ?_
              intro v7 w7 h1 h3 h4
              have HA8 : AD w (w7.setCell ⟨g, 4, none⟩ v7) F ⟨g, hv0, .slice y5 (N + 1) c5, v7, ls' ++ [.slice y9 2 c9]⟩ { c with bs := c.bs ++ [⟨xh, xa, xu⟩] } (XS' ++ [lvl1 t]) ⟨xh, xa, xu⟩ := by
                have hz : Y.drew.heap.size ≤ w5.heap.size := hb5.size
                rw [← HLS.out] at h1
                obtain ⟨r1, r2, r3⟩ := HAy.out.raw.til_app hb6 (y := .slice y9 2 c9) (us' := lvl1 t) (by rw [HT2.out]; exact own_base (ho5.alloc _) (Nat.zero_le _)) (fun k hk => (ho5.lt k hk).1) h1 h3 (fun k hk => (h4 k hk).imp id (fun h => by rw [World.size_alloc] at h; omega))
                exact HAy.out.step r1 r2 r3
              have hblk7 := ((HAy.out.below hb6).raw.blk).grown h3 (fun e => (HAy.out.below hb6).raw.tags.2.2.1 e.symm)
              have q6 : w7.cell? ⟨g, 4, none⟩ = some (.slice (some ⟨gu, 0, none⟩) m cu) := hblk7.cell 4
              have q7 : w7.frozen? ⟨g, 4, none⟩ = false := hblk7.frozen 4
              obtain ⟨y7, c7, rfl⟩ := row_shape h1
              have HA9 : Hid _ := HA8
              clear HA8 h1 h3 h4 hblk7 kX hto6
              refine hK.out _ _ trivial (fun hHeld => ?_)
              clear hK K
              simp only [Act.put, List.getElem_toArray, List.getElem_cons_succ, List.getElem_cons_zero, List.setIfInBounds_toArray, List.set_cons_zero, List.set_cons_succ]
              refine wpAnyH_take (i := 9) (v := .pointer (some ⟨g, 3, none⟩)) rfl (by kernel_rfl) (by kernel_rfl) (by kernel_rfl) (fun _ _ _ h => h) (Or.inl ⟨by rfl, ?_⟩) hHeld ?_
              · intro u hu
                go_simp
              simp only [Act.put, List.getElem_toArray, List.getElem_cons_succ, List.getElem_cons_zero, List.setIfInBounds_toArray, List.set_cons_zero, List.set_cons_succ]
              refine wpAnyH_take (i := 10) (v := .pointer (some ⟨g, 4, none⟩)) rfl (by kernel_rfl) (by kernel_rfl) (by kernel_rfl) (fun _ _ _ h => h) (Or.inl ⟨by rfl, ?_⟩) hHeld ?_
              · intro u hu
                go_simp
              simp only [Act.put, List.getElem_toArray, List.getElem_cons_succ, List.getElem_cons_zero, List.setIfInBounds_toArray, List.set_cons_zero, List.set_cons_succ]
              refine wpAnyH_ready (rs := [11]) (by kernel_rfl) (by simp) ?_
              refine AllReadyH.cons rfl (fun K hK => ?_) AllReadyH.nil
              go_simp
              refine hK.out _ _ trivial (fun hHeld => ?_)
              clear hK K
              refine wpAnyH_done (by kernel_rfl) ?_ _
              go_wp2
              go_end0
              have HAF := HA9.out
              rw [← HF.out] at HAF
              exact ⟨rfl, _, HAF.raw, rfl, rfl, HAF.turn, HAF.new⟩
            ·
              go_simp
              refine hgr.mono ?_
              rintro e w5 ⟨v5, rfl, ho5, hb5⟩
              obtain ⟨y9, c9, rfl⟩ := row_shape ho5
              have q4 : w5.cell? ⟨g, 4, none⟩ = some (.slice (some ⟨gu, 0, none⟩) m cu) := ((HAy.out.below hb5).c4.1)
              have q5 : (w5.alloc (.cells #[.slice y9 2 c9] 112)).cell? ⟨g, 4, none⟩ = some (.slice (some ⟨gu, 0, none⟩) m cu) := ((HAy.out.below (lay hb5 _)).c4.1)
              go_simp
              refine hK.out _ _ trivial (fun hHeld => ?_)
              clear hK K
              refine wpAnyH_ready (rs := [4, 7]) (by kernel_rfl) (by simp) ?_
              refine AllReadyH.cons rfl (fun K hK => ?_) (AllReadyH.cons rfl (fun K hK => ?_) AllReadyH.nil)
              ·
                go_simp
                refine hK.out _ _ trivial (fun hHeld => ?_)
                clear hK K
                refine wpAnyH_ready (rs := [7]) (by kernel_rfl) (by simp) ?_
                refine AllReadyH.cons rfl (fun K hK => ?_) AllReadyH.nil
                go_simp
                refine hK.out _ _ trivial (fun hHeld => ?_)
                clear hK K
                have kX := Blk.new w5 #[.slice y9 2 c9] 112
                have hb6 : Below Y.drew.heap.size Y.drew (w5.alloc (.cells #[.slice y9 2 c9] 112)) := lay hb5 _
                have hto6 : (w5.alloc (.cells #[.slice y9 2 c9] 112)).ownsRow 0 112 1 (.slice (some ⟨gu, 0, none⟩) m cu) m ls' := by
                  have := (HAy.out.below hb6).raw.til
                  rw [HLS.out] at this
                  exact this
                refine wpAnyH_ready (rs := [8]) (by kernel_rfl) (by simp) ?_
                refine AllReadyH.cons rfl (fun K hK => ?_) AllReadyH.nil
                refine step_appG _ rfl (.tmp 85) (.tmp 88) 91 112 iL _ 1 24 Tryz.underlying91 hiL hzL0 hzL1 hzL2 rfl (by decide) rfl 0 _ m ls' rfl hto6 (.slice (some ⟨w5.heap.size, 0, none⟩) 1 1) 1 [.slice y9 2 c9] rfl (Row.of_blk kX rfl 1 1) rfl (by simp [Value.oneCell']) (by omega) (by unfold maxLen; omega) (Nat.zero_le _) ?_
                intro v7 w7 h1 h3 h4
                have HA8 : AD w (w7.setCell ⟨g, 4, none⟩ v7) F ⟨g, hv0, .slice y5 (N + 1) c5, v7, ls' ++ [.slice y9 2 c9]⟩ { c with bs := c.bs ++ [⟨xh, xa, xu⟩] } (XS' ++ [lvl1 t]) ⟨xh, xa, xu⟩ := by
                  have hz : Y.drew.heap.size ≤ w5.heap.size := hb5.size
                  rw [← HLS.out] at h1
                  obtain ⟨r1, r2, r3⟩ := HAy.out.raw.til_app hb6 (y := .slice y9 2 c9) (us' := lvl1 t) (by rw [HT2.out]; exact own_base (ho5.alloc _) (Nat.zero_le _)) (fun k hk => (ho5.lt k hk).1) h1 h3 (fun k hk => (h4 k hk).imp id (fun h => by rw [World.size_alloc] at h; omega))
                  exact HAy.out.step r1 r2 r3
                have hblk7 := ((HAy.out.below hb6).raw.blk).grown h3 (fun e => (HAy.out.below hb6).raw.tags.2.2.1 e.symm)
                have q6 : w7.cell? ⟨g, 4, none⟩ = some (.slice (some ⟨gu, 0, none⟩) m cu) := hblk7.cell 4
                have q7 : w7.frozen? ⟨g, 4, none⟩ = false := hblk7.frozen 4
                obtain ⟨y7, c7, rfl⟩ := row_shape h1
                have HA9 : Hid _ := HA8
                clear HA8 h1 h3 h4 hblk7 kX hto6
                refine hK.out _ _ trivial (fun hHeld => ?_)
                clear hK K
                simp only [Act.put, List.getElem_toArray, List.getElem_cons_succ, List.getElem_cons_zero, List.setIfInBounds_toArray, List.set_cons_zero, List.set_cons_succ]
                refine wpAnyH_take (i := 9) (v := .pointer (some ⟨g, 3, none⟩)) rfl (by kernel_rfl) (by kernel_rfl) (by kernel_rfl) (fun _ _ _ h => h) (Or.inl ⟨by rfl, ?_⟩) hHeld ?_
                · intro u hu
                  go_simp
                simp only [Act.put, List.getElem_toArray, List.getElem_cons_succ, List.getElem_cons_zero, List.setIfInBounds_toArray, List.set_cons_zero, List.set_cons_succ]
                refine wpAnyH_take (i := 10) (v := .pointer (some ⟨g, 4, none⟩)) rfl (by kernel_rfl) (by kernel_rfl) (by kernel_rfl) (fun _ _ _ h => h) (Or.inl ⟨by rfl, ?_⟩) hHeld ?_
                · intro u hu
                  go_simp
                simp only [Act.put, List.getElem_toArray, List.getElem_cons_succ, List.getElem_cons_zero, List.setIfInBounds_toArray, List.set_cons_zero, List.set_cons_succ]
                refine wpAnyH_ready (rs := [11]) (by kernel_rfl) (by simp) ?_
                refine AllReadyH.cons rfl (fun K hK => ?_) AllReadyH.nil
                go_simp
                refine hK.out _ _ trivial (fun hHeld => ?_)
                clear hK K
                refine wpAnyH_done (by kernel_rfl) ?_ _
                go_wp2
                go_end0
                have HAF := HA9.out
                rw [← HF.out] at HAF
                exact ⟨rfl, _, HAF.raw, rfl, rfl, HAF.turn, HAF.new⟩
              ·
                go_simp
                refine hK.out _ _ trivial (fun hHeld => ?_)
                clear hK K
                refine wpAnyH_ready (rs := [4]) (by kernel_rfl) (by simp) ?_
                refine AllReadyH.cons rfl (fun K hK => ?_) AllReadyH.nil
                go_simp
                refine hK.out _ _ trivial (fun hHeld => ?_)
                clear hK K
                have kX := Blk.new w5 #[.slice y9 2 c9] 112
                have hb6 : Below Y.drew.heap.size Y.drew (w5.alloc (.cells #[.slice y9 2 c9] 112)) := lay hb5 _
                have hto6 : (w5.alloc (.cells #[.slice y9 2 c9] 112)).ownsRow 0 112 1 (.slice (some ⟨gu, 0, none⟩) m cu) m ls' := by
                  have := (HAy.out.below hb6).raw.til
                  rw [HLS.out] at this
                  exact this
                refine wpAnyH_ready (rs := [8]) (by kernel_rfl) (by simp) ?_
                refine AllReadyH.cons rfl (fun K hK => ?_) AllReadyH.nil
                refine step_appG _ rfl (.tmp 85) (.tmp 88) 91 112 iL _ 1 24 Tryz.underlying91 hiL hzL0 hzL1 hzL2 rfl (by decide) rfl 0 _ m ls' rfl hto6 (.slice (some ⟨w5.heap.size, 0, none⟩) 1 1) 1 [.slice y9 2 c9] rfl (Row.of_blk kX rfl 1 1) rfl (by simp [Value.oneCell']) (by omega) (by unfold maxLen; omega) (Nat.zero_le _) ?_
                intro v7 w7 h1 h3 h4
                have HA8 : AD w (w7.setCell ⟨g, 4, none⟩ v7) F ⟨g, hv0, .slice y5 (N + 1) c5, v7, ls' ++ [.slice y9 2 c9]⟩ { c with bs := c.bs ++ [⟨xh, xa, xu⟩] } (XS' ++ [lvl1 t]) ⟨xh, xa, xu⟩ := by
                  have hz : Y.drew.heap.size ≤ w5.heap.size := hb5.size
                  rw [← HLS.out] at h1
                  obtain ⟨r1, r2, r3⟩ := HAy.out.raw.til_app hb6 (y := .slice y9 2 c9) (us' := lvl1 t) (by rw [HT2.out]; exact own_base (ho5.alloc _) (Nat.zero_le _)) (fun k hk => (ho5.lt k hk).1) h1 h3 (fun k hk => (h4 k hk).imp id (fun h => by rw [World.size_alloc] at h; omega))
                  exact HAy.out.step r1 r2 r3
                have hblk7 := ((HAy.out.below hb6).raw.blk).grown h3 (fun e => (HAy.out.below hb6).raw.tags.2.2.1 e.symm)
                have q6 : w7.cell? ⟨g, 4, none⟩ = some (.slice (some ⟨gu, 0, none⟩) m cu) := hblk7.cell 4
                have q7 : w7.frozen? ⟨g, 4, none⟩ = false := hblk7.frozen 4
                obtain ⟨y7, c7, rfl⟩ := row_shape h1
                have HA9 : Hid _ := HA8
                clear HA8 h1 h3 h4 hblk7 kX hto6
                refine hK.out _ _ trivial (fun hHeld => ?_)
                clear hK K
                simp only [Act.put, List.getElem_toArray, List.getElem_cons_succ, List.getElem_cons_zero, List.setIfInBounds_toArray, List.set_cons_zero, List.set_cons_succ]
                refine wpAnyH_take (i := 9) (v := .pointer (some ⟨g, 3, none⟩)) rfl (by kernel_rfl) (by kernel_rfl) (by kernel_rfl) (fun _ _ _ h => h) (Or.inl ⟨by rfl, ?_⟩) hHeld ?_
                · intro u hu
                  go_simp
                simp only [Act.put, List.getElem_toArray, List.getElem_cons_succ, List.getElem_cons_zero, List.setIfInBounds_toArray, List.set_cons_zero, List.set_cons_succ]
                refine wpAnyH_take (i := 10) (v := .pointer (some ⟨g, 4, none⟩)) rfl (by kernel_rfl) (by kernel_rfl) (by kernel_rfl) (fun _ _ _ h => h) (Or.inl ⟨by rfl, ?_⟩) hHeld ?_
                · intro u hu
                  go_simp
                simp only [Act.put, List.getElem_toArray, List.getElem_cons_succ, List.getElem_cons_zero, List.setIfInBounds_toArray, List.set_cons_zero, List.set_cons_succ]
                refine wpAnyH_ready (rs := [11]) (by kernel_rfl) (by simp) ?_
                refine AllReadyH.cons rfl (fun K hK => ?_) AllReadyH.nil
                go_simp
                refine hK.out _ _ trivial (fun hHeld => ?_)
                clear hK K
                refine wpAnyH_done (by kernel_rfl) ?_ _
                go_wp2
                go_end0
                have HAF := HA9.out
                rw [← HF.out] at HAF
                exact ⟨rfl, _, HAF.raw, rfl, rfl, HAF.turn, HAF.new⟩
          · have h16' : ¬ (16 : Int) < (t.length : Int) := by omega
            have HF : Hid (LV = XS') := by unfold Hid; rw [← HNA.out, ← hXe, post_no htl h16]
            clear hto hv1 hv2 ht htl hXe hXl HA HR hj
            go_wp2
            go_region
            go_wp2
            go_end0
            have HA9 := HAd.out
            rw [← HF.out] at HA9
            exact ⟨rfl, _, HA9.raw, rfl, rfl, HA9.turn, HA9.new⟩
  · have hlv : preL (lvls us) = lvls us := by
      unfold preL
      rw [if_neg]
      unfold lvls
      rw [if_neg h0]
      split <;> simp
    rw [← hlv] at HA0
    have HXM0 : Hid ((preL (lvls us)).length = m) := by unfold Hid; rw [HM.out]; exact HA0.out.raw.lv.1.symm
    have hm1 : 1 ≤ m := by
      rw [← HXM0.out, hlv]
      unfold lvls
      rw [if_neg h0]
      split <;> simp
    have hm0 : ((m : Int) == 0) = false := by rw [beq_eq_false_iff_ne]; omega
    obtain ⟨c4, f4⟩ := HA0.out.c4
    obtain ⟨c3, f3⟩ := HA0.out.c3
    simp only at c4 f4 c3 f3
    clear hlv HXM0
    generalize preL (lvls us) = XS at HA0 HNI HNA HXL HTOP HX2 ⊢
    go_enter Tryz.func79, Tryz.ntmps79
    go_wp2
    have HAD := HA0
    clear c4 f4 c3 f3 HA0 HTO hm0
    generalize w.alloc (.cells #[.int .i64 (xh : Int), .int .i64 xa, .int .i64 xu] 100) = W at HAD ⊢
    have hsz : w.heap.size ≤ W.heap.size := HAD.out.turn.size
    have kS : Blk ((W.alloc (.cells #[.int .i64 (xh : Int), .int .i64 xa] 98)).drew) W.heap.size #[.int .i64 (xh : Int), .int .i64 xa] 98 := Blk.new W _ _
    have HSO : Hid (((W.alloc (.cells #[.int .i64 (xh : Int), .int .i64 xa] 98)).drew).ownsRow 0 98 2 (.slice ys N cs) N (sC c.bs)) := by
      have := own_past HAD.out.raw.held ((lay (Below.refl W.heap.size W) (.cells #[.int .i64 (xh : Int), .int .i64 xa] 98)).drew)
      rw [← HN.out] at this
      exact this
    have KH : Hid (∀ (w2 : World), ((W.alloc (.cells #[.int .i64 (xh : Int), .int .i64 xa] 98)).drew).grownBy w2 (Value.slice ys N cs).ownBlock → w2.cell? ⟨g, 3, none⟩ = some (.slice ys N cs) ∧ w2.frozen? ⟨g, 3, none⟩ = false) := fun w2 hg => by
      have hb := (HAD.out.raw.blk.below ((lay (Below.refl W.heap.size W) (.cells #[.int .i64 (xh : Int), .int .i64 xa] 98)).drew)).grown hg (fun e => HAD.out.raw.tags.2.1 e.symm)
      exact ⟨hb.cell 3, hb.frozen 3⟩
    have KHA : Hid (∀ (w2 : World) (v' : Value), w2.ownsRow 0 98 2 v' (N + 1) (sC c.bs ++ [.int .i64 (xh : Int), .int .i64 xa]) → ((W.alloc (.cells #[.int .i64 (xh : Int), .int .i64 xa] 98)).drew).grownBy w2 (Value.slice ys N cs).ownBlock → (∀ k, v'.ownBlock = some k → (Value.slice ys N cs).ownBlock = some k ∨ ((W.alloc (.cells #[.int .i64 (xh : Int), .int .i64 xa] 98)).drew).heap.size ≤ k) → AD w (w2.setCell ⟨g, 3, none⟩ v') F ⟨g, hv0, v', .slice yu m cu, ls⟩ { c with bs := c.bs ++ [⟨xh, xa, xu⟩] } XS ⟨xh, xa, xu⟩) := fun w2 v' ow hg hv' => by
      have hkk : ∀ k, ((W.alloc (.cells #[.int .i64 (xh : Int), .int .i64 xa] 98)).drew).heap.size ≤ k → W.heap.size ≤ k := fun k h => by
        have : W.heap.size + 1 ≤ k := by simpa using h
        omega
      rw [HN.out] at ow
      obtain ⟨h1, h2, h3⟩ := HAD.out.raw.held_app ((lay (Below.refl W.heap.size W) (.cells #[.int .i64 (xh : Int), .int .i64 xa] 98)).drew) (x := ⟨xh, xa, xu⟩) ow hg (fun k hk => (hv' k hk).imp id (fun h => hkk k h))
      exact HAD.out.step h1 h2 h3
    obtain ⟨c3, f3⟩ := HAD.out.c3
    simp only at c3 f3
    have d0 : W.drew.cell? ⟨w.heap.size, 0, none⟩ = some (.int .i64 (xh : Int)) := HAD.out.bx.1
    have d1 : W.drew.cell? ⟨w.heap.size, 1, none⟩ = some (.int .i64 xa) := HAD.out.bx.2.1
    have c3d : W.drew.cell? ⟨g, 3, none⟩ = some (.slice ys N cs) := c3
    have c3a : ((W.alloc (.cells #[.int .i64 (xh : Int), .int .i64 xa] 98)).drew).cell? ⟨g, 3, none⟩ = some (.slice ys N cs) := by
      have := (HAD.out.below ((lay (Below.refl W.heap.size W) (.cells #[.int .i64 (xh : Int), .int .i64 xa] 98)).drew)).c3.1
      exact this
    go_cut [35] (fun z wx => ∃ y5 c5, z = .slice y5 (N + 1) c5 ∧ Hid (AD w wx F ⟨g, hv0, .slice y5 (N + 1) c5, .slice yu m cu, ls⟩ { c with bs := c.bs ++ [⟨xh, xa, xu⟩] } XS ⟨xh, xa, xu⟩))
    case first =>
      go_region_law ((refine step_appG _ (by rfl) (.tmp 31) (.tmp 34) 90 98 iS _ 2 16 Tryz.underlying90 hiS hzS0 hzS1 hzS2 rfl (by decide) (by rfl) 0 _ N (sC c.bs) (by rfl) HSO.out (.slice (some ⟨W.heap.size, 0, none⟩) 1 1) 1 [.int .i64 (xh : Int), .int .i64 xa] (by rfl) (Row.of_blk kS rfl 1 1) rfl (by simp [Value.oneCell']) (by omega) (by unfold maxLen; omega) (Nat.zero_le _) ?_; intro v2 w2 h1 h3 h4; obtain ⟨e3, g3⟩ := KH.out w2 h3; obtain ⟨y5, c5, rfl⟩ := row_shape h1; have HA5 : Hid (AD w (w2.setCell ⟨g, 3, none⟩ (.slice y5 (N + 1) c5)) F ⟨g, hv0, .slice y5 (N + 1) c5, .slice yu m cu, ls⟩ { c with bs := c.bs ++ [⟨xh, xa, xu⟩] } XS ⟨xh, xa, xu⟩) := KHA.out w2 _ h1 h3 h4; clear h1 h3 h4))
      all_goals (go_wp2_with fail; go_meet; exact ⟨_, _, rfl, HA5⟩)
    case rest =>
      clear HAD kS HSO KH KHA c3 f3 d0 d1 c3d c3a
      obtain ⟨y5, c5, rfl, HA5⟩ := hcut
      obtain ⟨e4, _⟩ := HA5.out.c4
      simp only at e4
      have HXM : Hid (XS.length = m) := by unfold Hid; rw [HM.out]; exact HA5.out.raw.lv.1.symm
      have hm2 : m ≤ 2 := by rw [← HXM.out]; exact HX2.out
      go_wp2
      go_loopw [4, 43] (fun A i wr => ∃ (j a : Nat) (ls' : List Value) (XS' : List (List Int)), j ≤ m ∧ i = .int .i64 (j : Int) ∧ A = .int .i64 (a : Int) ∧ Hid (AD w wr F ⟨g, hv0, .slice y5 (N + 1) c5, .slice yu m cu, ls'⟩ { c with bs := c.bs ++ [⟨xh, xa, xu⟩] } XS' ⟨xh, xa, xu⟩) ∧ Hid (ls'.length = m ∧ RA XS N xu j a XS')) (fun _ i _ => m - (intOf i).toNat)
      case atStart => exact ⟨0, N, ls, XS, Nat.zero_le _, rfl, rfl, HA5, ⟨HM.out.symm, ra_start HNI.out⟩⟩
      case round =>
        clear HA5 e4
        obtain ⟨j, a, ls', XS', hjm, rfl, rfl, HA, HR⟩ := hrel
        by_cases hj : j < m
        · have hjm' : (j : Int) < (m : Int) := by omega
          obtain ⟨y, hy1, hy2, hay, HR2⟩ := ra_step HR.out.2 (by rw [HXM.out]; exact hj)
          have hyl : y.length ≤ 256 := HXL.out y (by rw [hy2]; exact List.getElem_mem _)
          obtain ⟨v, hv1, hv2⟩ := HA.out.raw.lv.at hy1
          simp only at hv1
          have hto := HA.out.raw.til
          simp only [HR.out.1] at hto
          obtain ⟨gu, cap, hform, _, _⟩ := hto.form (by omega)
          simp only [Value.slice.injEq, true_and] at hform
          obtain ⟨rfl, rfl⟩ := hform
          have hcj := (lies_own hto).1 j v hv1
          have hfj := hto.frozenAt j
          have e4 : wr.drew.cell? ⟨g, 4, none⟩ = some (.slice (some ⟨gu, 0, none⟩) m cu) := HA.out.c4.1
          have ex : wr.drew.cell? ⟨w.heap.size, 2, none⟩ = some (.int .i64 xu) := HA.out.bx.2.2
          have ev : wr.drew.cell? ⟨gu, j, none⟩ = some v := by simpa using hcj
          have HV2 : Hid (wr.drew.ownsRow 0 3 1 v y.length (iC y)) := own_past hv2 (Below.refl _ _).drew
          have HAd : Hid (AD w wr.drew F ⟨g, hv0, .slice y5 (N + 1) c5, .slice (some ⟨gu, 0, none⟩) m cu, ls'⟩ { c with bs := c.bs ++ [⟨xh, xa, xu⟩] } XS' ⟨xh, xa, xu⟩) := HA.out.below (Below.refl _ _).drew
          have HNX : Hid (∀ (w5 : World) (v' : Value), w5.ownsRow 0 3 1 v' (raiseL y a xu).length (iC (raiseL y a xu)) → Turn (fun k => v.ownBlock = some k) wr.drew w5 → (∀ k, v'.ownBlock = some k → v.ownBlock = some k ∨ wr.drew.heap.size ≤ k) → AD w (w5.setCell ⟨gu, j, none⟩ v') F ⟨g, hv0, .slice y5 (N + 1) c5, .slice (some ⟨gu, 0, none⟩) m cu, ls'.set j v'⟩ { c with bs := c.bs ++ [⟨xh, xa, xu⟩] } (XS'.set j (raiseL y a xu)) ⟨xh, xa, xu⟩ ∧ (w5.cell? ⟨gu, j, none⟩ = some v ∧ w5.frozen? ⟨gu, j, none⟩ = false) ∧ w5.cell? ⟨g, 4, none⟩ = some (.slice (some ⟨gu, 0, none⟩) m cu) ∧ w5.cell? ⟨w.heap.size, 2, none⟩ = some (.int .i64 xu)) := fun w5 v' ho ht hn => by
            have hraw := HAd.out.raw
            have hmem := List.mem_of_getElem? hv1
            obtain ⟨h1, h2, h3⟩ := hraw.lv_set (i := j) hv1 ht ho hn (gu := gu) (cap := cu) (by show Value.slice _ _ _ = Value.slice _ _ _; rw [HR.out.1])
            have til5 : w5.ownsRow 0 112 1 (.slice (some ⟨gu, 0, none⟩) m cu) m ls' := by
              have := ht.row hraw.til (fun k hk e => hraw.lv_far hmem hraw.til (by decide) k e hk)
              rw [HR.out.1] at this
              exact this
            have blk5 := ht.blk hraw.blk (hraw.tags.2.2.2 v hmem)
            have box5 := ht.blk HAd.out.box (fun e => hraw.apart HAd.out.box (by decide) (by decide) (by decide) (by decide) (.inr (.inr (.inr ⟨v, hmem, e⟩))))
            refine ⟨HAd.out.step h1 h2 h3, ⟨?_, til5.frozenAt j⟩, blk5.cell 4, box5.cell 2⟩
            have := (lies_own til5).1 j v hv1
            simpa using this
          have HR3 : Hid (∀ v' : Value, (ls'.set j v').length = m ∧ RA XS N xu (j + 1) (a / 16) (XS'.set j (raiseL y a xu))) := fun v' => ⟨by rw [List.length_set]; exact HR.out.1, HR2⟩
          obtain ⟨yv, cv, rfl⟩ := row_shape hv2
          have hrs := raise_any (.slice yv y.length cv) y a xu wr.drew HV2.out hay (by omega)
          have ha256 : a ≤ 256 := by omega
          clear hto hcj hfj hv1 hv2 hy1 hy2 HR2 HAd HA HV2
          go_wp2
          refine wp_region_held_drew (S := fun u => u.cell? ⟨g, 4, none⟩ = some (.slice (some ⟨gu, 0, none⟩) m cu) ∧ u.cell? ⟨w.heap.size, 2, none⟩ = some (.int .i64 xu)) (by kernel_rfl) ⟨e4, ex⟩ (fun hHeld => ?_)
          refine wpAnyH_take (i := 0) (v := .pointer (some ⟨g, 3, none⟩)) rfl (by kernel_rfl) (by kernel_rfl) (by kernel_rfl) (fun _ _ _ h => h) (Or.inl ⟨by rfl, ?_⟩) hHeld ?_
          · intro u hu
            go_simp
          simp only [Act.put, List.getElem_toArray, List.getElem_cons_zero, List.setIfInBounds_toArray, List.set_cons_zero, List.set_cons_succ]
          refine wpAnyH_take (i := 1) (v := .pointer (some ⟨g, 3, none⟩)) rfl (by kernel_rfl) (by kernel_rfl) (by kernel_rfl) (fun _ _ _ h => h) (Or.inl ⟨by rfl, ?_⟩) hHeld ?_
          · intro u hu
            go_simp
          simp only [Act.put, List.getElem_toArray, List.getElem_cons_succ, List.getElem_cons_zero, List.setIfInBounds_toArray, List.set_cons_zero, List.set_cons_succ]
          refine wpAnyH_take (i := 2) (v := .pointer (some ⟨g, 4, none⟩)) rfl (by kernel_rfl) (by kernel_rfl) (by kernel_rfl) (fun _ _ _ h => h) (Or.inl ⟨by rfl, ?_⟩) hHeld ?_
          · intro u hu
            go_simp
          simp only [Act.put, List.getElem_toArray, List.getElem_cons_succ, List.getElem_cons_zero, List.setIfInBounds_toArray, List.set_cons_zero, List.set_cons_succ]
          refine wpAnyH_take (i := 3) (v := .slice (some ⟨gu, 0, none⟩) m cu) rfl (by kernel_rfl) (by kernel_rfl) (by kernel_rfl) (fun _ _ _ h => h) (Or.inl ⟨by rfl, ?_⟩) hHeld ?_
          · intro u hu
            obtain ⟨u0, u1⟩ := hu
            go_simp
          simp only [Act.put, List.getElem_toArray, List.getElem_cons_succ, List.getElem_cons_zero, List.setIfInBounds_toArray, List.set_cons_zero, List.set_cons_succ]
          refine wpAnyH_take (i := 4) (v := .int .i64 (j : Int)) rfl (by kernel_rfl) (by kernel_rfl) (by kernel_rfl) (fun _ _ _ h => h) (Or.inl ⟨by rfl, ?_⟩) hHeld ?_
          · intro u hu
            go_simp
          simp only [Act.put, List.getElem_toArray, List.getElem_cons_succ, List.getElem_cons_zero, List.setIfInBounds_toArray, List.set_cons_zero, List.set_cons_succ]
          refine wpAnyH_take (i := 5) (v := .pointer (some ⟨g, 3, none⟩)) rfl (by kernel_rfl) (by kernel_rfl) (by kernel_rfl) (fun _ _ _ h => h) (Or.inl ⟨by rfl, ?_⟩) hHeld ?_
          · intro u hu
            go_simp
          simp only [Act.put, List.getElem_toArray, List.getElem_cons_succ, List.getElem_cons_zero, List.setIfInBounds_toArray, List.set_cons_zero, List.set_cons_succ]
          refine wpAnyH_take (i := 6) (v := .pointer (some ⟨g, 3, none⟩)) rfl (by kernel_rfl) (by kernel_rfl) (by kernel_rfl) (fun _ _ _ h => h) (Or.inl ⟨by rfl, ?_⟩) hHeld ?_
          · intro u hu
            go_simp
          simp only [Act.put, List.getElem_toArray, List.getElem_cons_succ, List.getElem_cons_zero, List.setIfInBounds_toArray, List.set_cons_zero, List.set_cons_succ]
          refine wpAnyH_take (i := 7) (v := .pointer (some ⟨g, 4, none⟩)) rfl (by kernel_rfl) (by kernel_rfl) (by kernel_rfl) (fun _ _ _ h => h) (Or.inl ⟨by rfl, ?_⟩) hHeld ?_
          · intro u hu
            go_simp
          simp only [Act.put, List.getElem_toArray, List.getElem_cons_succ, List.getElem_cons_zero, List.setIfInBounds_toArray, List.set_cons_zero, List.set_cons_succ]
          refine wpAnyH_take (i := 8) (v := .slice (some ⟨gu, 0, none⟩) m cu) rfl (by kernel_rfl) (by kernel_rfl) (by kernel_rfl) (fun _ _ _ h => h) (Or.inl ⟨by rfl, ?_⟩) hHeld ?_
          · intro u hu
            obtain ⟨u0, u1⟩ := hu
            go_simp
          simp only [Act.put, List.getElem_toArray, List.getElem_cons_succ, List.getElem_cons_zero, List.setIfInBounds_toArray, List.set_cons_zero, List.set_cons_succ]
          refine wpAnyH_take (i := 9) (v := .int .i64 (j : Int)) rfl (by kernel_rfl) (by kernel_rfl) (by kernel_rfl) (fun _ _ _ h => h) (Or.inl ⟨by rfl, ?_⟩) hHeld ?_
          · intro u hu
            go_simp
          simp only [Act.put, List.getElem_toArray, List.getElem_cons_succ, List.getElem_cons_zero, List.setIfInBounds_toArray, List.set_cons_zero, List.set_cons_succ]
          refine wpAnyH_take (i := 10) (v := .pointer (some ⟨gu, j, none⟩)) rfl (by kernel_rfl) (by kernel_rfl) (by kernel_rfl) (fun _ _ _ h => h) (Or.inl ⟨by rfl, ?_⟩) hHeld ?_
          · intro u hu
            go_simp
          simp only [Act.put, List.getElem_toArray, List.getElem_cons_succ, List.getElem_cons_zero, List.setIfInBounds_toArray, List.set_cons_zero, List.set_cons_succ]
          refine wpAnyH_take (i := 12) (v := .int .i64 (a : Int)) rfl (by kernel_rfl) (by kernel_rfl) (by kernel_rfl) (fun _ _ _ h => h) (Or.inl ⟨by rfl, ?_⟩) hHeld ?_
          · intro u hu
            go_simp
          simp only [Act.put, List.getElem_toArray, List.getElem_cons_succ, List.getElem_cons_zero, List.setIfInBounds_toArray, List.set_cons_zero, List.set_cons_succ]
          refine wpAnyH_take (i := 13) (v := .pointer (some ⟨w.heap.size, 2, none⟩)) rfl (by kernel_rfl) (by kernel_rfl) (by kernel_rfl) (fun _ _ _ h => h) (Or.inl ⟨by rfl, ?_⟩) hHeld ?_
          · intro u hu
            go_simp
          simp only [Act.put, List.getElem_toArray, List.getElem_cons_succ, List.getElem_cons_zero, List.setIfInBounds_toArray, List.set_cons_zero, List.set_cons_succ]
          refine wpAnyH_take (i := 14) (v := .int .i64 xu) rfl (by kernel_rfl) (by kernel_rfl) (by kernel_rfl) (fun _ _ _ h => h) (Or.inl ⟨by rfl, ?_⟩) hHeld ?_
          · intro u hu
            obtain ⟨u0, u1⟩ := hu
            go_simp
          simp only [Act.put, List.getElem_toArray, List.getElem_cons_succ, List.getElem_cons_zero, List.setIfInBounds_toArray, List.set_cons_zero, List.set_cons_succ]
          refine wpAnyH_ready (rs := [11]) (by kernel_rfl) (by simp) ?_
          refine AllReadyH.cons rfl (fun K hK => ?_) AllReadyH.nil
          go_simp
          refine hK.out _ _ hHeld (fun hHeld => ?_)
          clear hK K
          refine wpAnyH_ready (rs := [15]) (by kernel_rfl) (by simp) ?_
          refine AllReadyH.cons rfl (fun K hK => ?_) AllReadyH.nil
          go_simp
          refine hrs.mono ?_
          rintro e w5 ⟨v', rfl, ho', ht', hn'⟩
          obtain ⟨HA6, ⟨q1, q2⟩, q3, q4⟩ := HNX.out w5 v' ho' ht' hn'
          obtain ⟨yv', cv', rfl⟩ := row_shape ho'
          have s4 := HA6.c4.1
          have sx := HA6.bx.2.2
          simp only at s4 sx
          have HA7 : Hid _ := HA6
          clear ho' ht' hn' HNX HA6 hHeld
          go_simp
          refine hK.out _ _ ⟨q3, q4⟩ (fun hHeld => ?_)
          clear hK K
          refine wpAnyH_take (i := 16) (v := .pointer (some ⟨gu, j, none⟩)) rfl (by kernel_rfl) (by kernel_rfl) (by kernel_rfl) (fun _ _ _ h => h) (Or.inl ⟨by rfl, ?_⟩) hHeld ?_
          · intro u hu
            go_simp
          simp only [Act.put, List.getElem_toArray, List.getElem_cons_succ, List.getElem_cons_zero, List.setIfInBounds_toArray, List.set_cons_zero, List.set_cons_succ]
          refine wpAnyH_ready (rs := [17]) (by kernel_rfl) (by simp) ?_
          refine AllReadyH.cons rfl (fun K hK => ?_) AllReadyH.nil
          go_simp
          refine hK.out _ _ ⟨s4, sx⟩ (fun hHeld => ?_)
          clear hK K
          refine wpAnyH_done (by kernel_rfl) ?_ _
          go_wp2
          go_roundw
          case rel => exact ⟨j + 1, a / 16, _, _, by omega, by go_num, by go_num, HA7, HR3.out _⟩
          case measure => simp [intOf]; omega
        · have hjm' : decide (j < m) = false := by simpa using hj
          have hXe : XS' = raiseA XS N xu := ra_end HR.out.2 (by rw [HXM.out]; omega)
          have hXl : XS'.length = m := by rw [← HXM.out]; exact ra_len HR.out.2 (by rw [HXM.out]; omega)
          obtain ⟨t, ht⟩ : ∃ t, XS'[m - 1]? = some t := ⟨_, List.getElem?_eq_getElem (by omega)⟩
          have htl : XS'.getLast? = some t := by rw [List.getLast?_eq_getElem?, hXl]; exact ht
          obtain ⟨v, hv1, hv2⟩ := HA.out.raw.lv.at ht
          simp only at hv1
          have hto := HA.out.raw.til
          simp only [HR.out.1] at hto
          obtain ⟨gu, cap, hform, _, _⟩ := hto.form (by omega)
          simp only [Value.slice.injEq, true_and] at hform
          obtain ⟨rfl, rfl⟩ := hform
          have ev : wr.drew.cell? ⟨gu, m - 1, none⟩ = some v := by
            have := (lies_own hto).1 (m - 1) v hv1
            simpa using this
          have e4 : wr.drew.cell? ⟨g, 4, none⟩ = some (.slice (some ⟨gu, 0, none⟩) m cu) := HA.out.c4.1
          have HAd : Hid (AD w wr.drew F ⟨g, hv0, .slice y5 (N + 1) c5, .slice (some ⟨gu, 0, none⟩) m cu, ls'⟩ { c with bs := c.bs ++ [⟨xh, xa, xu⟩] } XS' ⟨xh, xa, xu⟩) := HA.out.below (Below.refl _ _).drew
          have HV2 : Hid (wr.drew.ownsRow 0 3 1 v t.length (iC t)) := own_past hv2 (Below.refl _ _).drew
          obtain ⟨yv, cv, rfl⟩ := row_shape hv2
          have hmi : ((m : Int) - 1).toNat = m - 1 := by omega
          by_cases h16 : 16 < t.length
          · have h17 : t.length = 17 := HTOP.out t (by rw [← hXe]; exact htl) h16
            have HF : Hid (LV = XS' ++ [lvl1 t]) := by unfold Hid; rw [← HNA.out, ← hXe, post_yes htl h16]
            have HT2 : Hid ((lvl1 t).length = 2) := by unfold Hid; rw [lvl1_len, h17]; rfl
            have HLS : Hid (ls'.length = m) := HR.out.1
            rw [h17] at HV2
            obtain ⟨gv, cap, hform, _, _⟩ := HV2.out.form (by omega)
            simp only [Value.slice.injEq] at hform
            obtain ⟨rfl, -, rfl⟩ := hform
            rw [h17] at ev
            have HT17 : Hid (t.length = 17) := h17
            clear hto hv1 hv2 ht htl hXe hXl HA HR hj h17 h16
            go_wp2
            go_region
            go_wp2
            revert HAd HV2
            generalize wr.drew = Y
            intro HAd HV2
            have HAy : Hid (AD w Y.drew F ⟨g, hv0, .slice y5 (N + 1) c5, .slice (some ⟨gu, 0, none⟩) m cu, ls'⟩ { c with bs := c.bs ++ [⟨xh, xa, xu⟩] } XS' ⟨xh, xa, xu⟩) := HAd.out.below (Below.refl _ _).drew
            have hgr := greatest_any gv cv t HT17.out Y.drew (own_past HV2.out (Below.refl _ _).drew)
            have c4y : Y.drew.cell? ⟨g, 4, none⟩ = some (.slice (some ⟨gu, 0, none⟩) m cu) := HAy.out.c4.1
            refine wp_region_held_drew (S := fun _ => True) (by kernel_rfl) trivial (fun hHeld => ?_)
            refine wpAnyH_take (i := 0) (v := .pointer (some ⟨g, 3, none⟩)) rfl (by kernel_rfl) (by kernel_rfl) (by kernel_rfl) (fun _ _ _ h => h) (Or.inl ⟨by rfl, ?_⟩) hHeld ?_
            · intro u hu
              go_simp
            simp only [Act.put, List.getElem_toArray, List.getElem_cons_zero, List.setIfInBounds_toArray, List.set_cons_zero, List.set_cons_succ]
            refine wpAnyH_take (i := 1) (v := .pointer (some ⟨g, 3, none⟩)) rfl (by kernel_rfl) (by kernel_rfl) (by kernel_rfl) (fun _ _ _ h => h) (Or.inl ⟨by rfl, ?_⟩) hHeld ?_
            · intro u hu
              go_simp
            simp only [Act.put, List.getElem_toArray, List.getElem_cons_succ, List.getElem_cons_zero, List.setIfInBounds_toArray, List.set_cons_zero, List.set_cons_succ]
            refine wpAnyH_take (i := 2) (v := .pointer (some ⟨g, 3, none⟩)) rfl (by kernel_rfl) (by kernel_rfl) (by kernel_rfl) (fun _ _ _ h => h) (Or.inl ⟨by rfl, ?_⟩) hHeld ?_
            · intro u hu
              go_simp
            simp only [Act.put, List.getElem_toArray, List.getElem_cons_succ, List.getElem_cons_zero, List.setIfInBounds_toArray, List.set_cons_zero, List.set_cons_succ]
            refine wpAnyH_take (i := 3) (v := .pointer (some ⟨g, 4, none⟩)) rfl (by kernel_rfl) (by kernel_rfl) (by kernel_rfl) (fun _ _ _ h => h) (Or.inl ⟨by rfl, ?_⟩) hHeld ?_
            · intro u hu
              go_simp
            simp only [Act.put, List.getElem_toArray, List.getElem_cons_succ, List.getElem_cons_zero, List.setIfInBounds_toArray, List.set_cons_zero, List.set_cons_succ]
            refine wpAnyH_take (i := 5) (v := .slice (some ⟨gv, 0, none⟩) 17 cv) rfl (by kernel_rfl) (by kernel_rfl) (by kernel_rfl) (fun _ _ _ h => h) (Or.inl ⟨by rfl, ?_⟩) hHeld ?_
            · intro u hu
              go_simp
            simp only [Act.put, List.getElem_toArray, List.getElem_cons_succ, List.getElem_cons_zero, List.setIfInBounds_toArray, List.set_cons_zero, List.set_cons_succ]
            refine wpAnyH_ready (rs := [4, 6]) (by kernel_rfl) (by simp) ?_
            refine AllReadyH.cons rfl (fun K hK => ?_) (AllReadyH.cons rfl (fun K hK => ?_) AllReadyH.nil)
            ·
              go_simp
              refine hK.out _ _ trivial (fun hHeld => ?_)
              clear hK K
              refine wpAnyH_ready (rs := [6]) (by kernel_rfl) (by simp) ?_
              refine AllReadyH.cons rfl (fun K hK => ?_) AllReadyH.nil
              go_simp
              refine hgr.mono ?_
              rintro e w5 ⟨v5, rfl, ho5, hb5⟩
              obtain ⟨y9, c9, rfl⟩ := row_shape ho5
              have q4 : w5.cell? ⟨g, 4, none⟩ = some (.slice (some ⟨gu, 0, none⟩) m cu) := ((HAy.out.below hb5).c4.1)
              have q5 : (w5.alloc (.cells #[.slice y9 2 c9] 112)).cell? ⟨g, 4, none⟩ = some (.slice (some ⟨gu, 0, none⟩) m cu) := ((HAy.out.below (lay hb5 _)).c4.1)
              go_simp
              refine hK.out _ _ trivial (fun hHeld => ?_)
              clear hK K
              refine wpAnyH_ready (rs := [7]) (by kernel_rfl) (by simp) ?_
              refine AllReadyH.cons rfl (fun K hK => ?_) AllReadyH.nil
              go_simp
              refine hK.out _ _ trivial (fun hHeld => ?_)
              clear hK K
              have kX := Blk.new w5 #[.slice y9 2 c9] 112
              have hb6 : Below Y.drew.heap.size Y.drew (w5.alloc (.cells #[.slice y9 2 c9] 112)) := lay hb5 _
              have hto6 : (w5.alloc (.cells #[.slice y9 2 c9] 112)).ownsRow 0 112 1 (.slice (some ⟨gu, 0, none⟩) m cu) m ls' := by
                have := (HAy.out.below hb6).raw.til
                rw [HLS.out] at this
                exact this
              refine wpAnyH_ready (rs := [8]) (by kernel_rfl) (by simp) ?_
              refine AllReadyH.cons rfl (fun K hK => ?_) AllReadyH.nil
              refine step_appG _ rfl (.tmp 85) (.tmp 88) 91 112 iL _ 1 24 Tryz.underlying91 hiL hzL0 hzL1 hzL2 rfl (by decide) rfl 0 _ m ls' rfl hto6 (.slice (some ⟨w5.heap.size, 0, none⟩) 1 1) 1 [.slice y9 2 c9] rfl (Row.of_blk kX rfl 1 1) rfl (by simp [Value.oneCell']) (by omega) (by unfold maxLen; omega) (Nat.zero_le _) ?_
              intro v7 w7 h1 h3 h4
              have HA8 : AD w (w7.setCell ⟨g, 4, none⟩ v7) F ⟨g, hv0, .slice y5 (N + 1) c5, v7, ls' ++ [.slice y9 2 c9]⟩ { c with bs := c.bs ++ [⟨xh, xa, xu⟩] } (XS' ++ [lvl1 t]) ⟨xh, xa, xu⟩ := by
                have hz : Y.drew.heap.size ≤ w5.heap.size := hb5.size
                rw [← HLS.out] at h1
                obtain ⟨r1, r2, r3⟩ := HAy.out.raw.til_app hb6 (y := .slice y9 2 c9) (us' := lvl1 t) (by rw [HT2.out]; exact own_base (ho5.alloc _) (Nat.zero_le _)) (fun k hk => (ho5.lt k hk).1) h1 h3 (fun k hk => (h4 k hk).imp id (fun h => by rw [World.size_alloc] at h; omega))
                exact HAy.out.step r1 r2 r3
              have hblk7 := ((HAy.out.below hb6).raw.blk).grown h3 (fun e => (HAy.out.below hb6).raw.tags.2.2.1 e.symm)
              have q6 : w7.cell? ⟨g, 4, none⟩ = some (.slice (some ⟨gu, 0, none⟩) m cu) := hblk7.cell 4
              have q7 : w7.frozen? ⟨g, 4, none⟩ = false := hblk7.frozen 4
              obtain ⟨y7, c7, rfl⟩ := row_shape h1
              have HA9 : Hid _ := HA8
              clear HA8 h1 h3 h4 hblk7 kX hto6
              refine hK.out _ _ trivial (fun hHeld => ?_)
              clear hK K
              simp only [Act.put, List.getElem_toArray, List.getElem_cons_succ, List.getElem_cons_zero, List.setIfInBounds_toArray, List.set_cons_zero, List.set_cons_succ]
              refine wpAnyH_take (i := 9) (v := .pointer (some ⟨g, 3, none⟩)) rfl (by kernel_rfl) (by kernel_rfl) (by kernel_rfl) (fun _ _ _ h => h) (Or.inl ⟨by rfl, ?_⟩) hHeld ?_
              · intro u hu
                go_simp
              simp only [Act.put, List.getElem_toArray, List.getElem_cons_succ, List.getElem_cons_zero, List.setIfInBounds_toArray, List.set_cons_zero, List.set_cons_succ]
              refine wpAnyH_take (i := 10) (v := .pointer (some ⟨g, 4, none⟩)) rfl (by kernel_rfl) (by kernel_rfl) (by kernel_rfl) (fun _ _ _ h => h) (Or.inl ⟨by rfl, ?_⟩) hHeld ?_
              · intro u hu
                go_simp
              simp only [Act.put, List.getElem_toArray, List.getElem_cons_succ, List.getElem_cons_zero, List.setIfInBounds_toArray, List.set_cons_zero, List.set_cons_succ]
              refine wpAnyH_ready (rs := [11]) (by kernel_rfl) (by simp) ?_
              refine AllReadyH.cons rfl (fun K hK => ?_) AllReadyH.nil
              go_simp
              refine hK.out _ _ trivial (fun hHeld => ?_)
              clear hK K
              refine wpAnyH_done (by kernel_rfl) ?_ _
              go_wp2
              go_end0
              have HAF := HA9.out
              rw [← HF.out] at HAF
              exact ⟨rfl, _, HAF.raw, rfl, rfl, HAF.turn, HAF.new⟩
            ·
              go_simp
              refine hgr.mono ?_
              rintro e w5 ⟨v5, rfl, ho5, hb5⟩
              obtain ⟨y9, c9, rfl⟩ := row_shape ho5
              have q4 : w5.cell? ⟨g, 4, none⟩ = some (.slice (some ⟨gu, 0, none⟩) m cu) := ((HAy.out.below hb5).c4.1)
              have q5 : (w5.alloc (.cells #[.slice y9 2 c9] 112)).cell? ⟨g, 4, none⟩ = some (.slice (some ⟨gu, 0, none⟩) m cu) := ((HAy.out.below (lay hb5 _)).c4.1)
              go_simp
              refine hK.out _ _ trivial (fun hHeld => ?_)
              clear hK K
              refine wpAnyH_ready (rs := [4, 7]) (by kernel_rfl) (by simp) ?_
              refine AllReadyH.cons rfl (fun K hK => ?_) (AllReadyH.cons rfl (fun K hK => ?_) AllReadyH.nil)
              ·
                go_simp
                refine hK.out _ _ trivial (fun hHeld => ?_)
                clear hK K
                refine wpAnyH_ready (rs := [7]) (by kernel_rfl) (by simp) ?_
                refine AllReadyH.cons rfl (fun K hK => ?_) AllReadyH.nil
                go_simp
                refine hK.out _ _ trivial (fun hHeld => ?_)
                clear hK K
                have kX := Blk.new w5 #[.slice y9 2 c9] 112
                have hb6 : Below Y.drew.heap.size Y.drew (w5.alloc (.cells #[.slice y9 2 c9] 112)) := lay hb5 _
                have hto6 : (w5.alloc (.cells #[.slice y9 2 c9] 112)).ownsRow 0 112 1 (.slice (some ⟨gu, 0, none⟩) m cu) m ls' := by
                  have := (HAy.out.below hb6).raw.til
                  rw [HLS.out] at this
                  exact this
                refine wpAnyH_ready (rs := [8]) (by kernel_rfl) (by simp) ?_
                refine AllReadyH.cons rfl (fun K hK => ?_) AllReadyH.nil
                refine step_appG _ rfl (.tmp 85) (.tmp 88) 91 112 iL _ 1 24 Tryz.underlying91 hiL hzL0 hzL1 hzL2 rfl (by decide) rfl 0 _ m ls' rfl hto6 (.slice (some ⟨w5.heap.size, 0, none⟩) 1 1) 1 [.slice y9 2 c9] rfl (Row.of_blk kX rfl 1 1) rfl (by simp [Value.oneCell']) (by omega) (by unfold maxLen; omega) (Nat.zero_le _) ?_
                intro v7 w7 h1 h3 h4
                have HA8 : AD w (w7.setCell ⟨g, 4, none⟩ v7) F ⟨g, hv0, .slice y5 (N + 1) c5, v7, ls' ++ [.slice y9 2 c9]⟩ { c with bs := c.bs ++ [⟨xh, xa, xu⟩] } (XS' ++ [lvl1 t]) ⟨xh, xa, xu⟩ := by
                  have hz : Y.drew.heap.size ≤ w5.heap.size := hb5.size
                  rw [← HLS.out] at h1
                  obtain ⟨r1, r2, r3⟩ := HAy.out.raw.til_app hb6 (y := .slice y9 2 c9) (us' := lvl1 t) (by rw [HT2.out]; exact own_base (ho5.alloc _) (Nat.zero_le _)) (fun k hk => (ho5.lt k hk).1) h1 h3 (fun k hk => (h4 k hk).imp id (fun h => by rw [World.size_alloc] at h; omega))
                  exact HAy.out.step r1 r2 r3
                have hblk7 := ((HAy.out.below hb6).raw.blk).grown h3 (fun e => (HAy.out.below hb6).raw.tags.2.2.1 e.symm)
                have q6 : w7.cell? ⟨g, 4, none⟩ = some (.slice (some ⟨gu, 0, none⟩) m cu) := hblk7.cell 4
                have q7 : w7.frozen? ⟨g, 4, none⟩ = false := hblk7.frozen 4
                obtain ⟨y7, c7, rfl⟩ := row_shape h1
                have HA9 : Hid _ := HA8
                clear HA8 h1 h3 h4 hblk7 kX hto6
                refine hK.out _ _ trivial (fun hHeld => ?_)
                clear hK K
                simp only [Act.put, List.getElem_toArray, List.getElem_cons_succ, List.getElem_cons_zero, List.setIfInBounds_toArray, List.set_cons_zero, List.set_cons_succ]
                refine wpAnyH_take (i := 9) (v := .pointer (some ⟨g, 3, none⟩)) rfl (by kernel_rfl) (by kernel_rfl) (by kernel_rfl) (fun _ _ _ h => h) (Or.inl ⟨by rfl, ?_⟩) hHeld ?_
                · intro u hu
                  go_simp
                simp only [Act.put, List.getElem_toArray, List.getElem_cons_succ, List.getElem_cons_zero, List.setIfInBounds_toArray, List.set_cons_zero, List.set_cons_succ]
                refine wpAnyH_take (i := 10) (v := .pointer (some ⟨g, 4, none⟩)) rfl (by kernel_rfl) (by kernel_rfl) (by kernel_rfl) (fun _ _ _ h => h) (Or.inl ⟨by rfl, ?_⟩) hHeld ?_
                · intro u hu
                  go_simp
                simp only [Act.put, List.getElem_toArray, List.getElem_cons_succ, List.getElem_cons_zero, List.setIfInBounds_toArray, List.set_cons_zero, List.set_cons_succ]
                refine wpAnyH_ready (rs := [11]) (by kernel_rfl) (by simp) ?_
                refine AllReadyH.cons rfl (fun K hK => ?_) AllReadyH.nil
                go_simp
                refine hK.out _ _ trivial (fun hHeld => ?_)
                clear hK K
                refine wpAnyH_done (by kernel_rfl) ?_ _
                go_wp2
                go_end0
                have HAF := HA9.out
                rw [← HF.out] at HAF
                exact ⟨rfl, _, HAF.raw, rfl, rfl, HAF.turn, HAF.new⟩
              ·
                go_simp
                refine hK.out _ _ trivial (fun hHeld => ?_)
                clear hK K
                refine wpAnyH_ready (rs := [4]) (by kernel_rfl) (by simp) ?_
                refine AllReadyH.cons rfl (fun K hK => ?_) AllReadyH.nil
                go_simp
                refine hK.out _ _ trivial (fun hHeld => ?_)
                clear hK K
                have kX := Blk.new w5 #[.slice y9 2 c9] 112
                have hb6 : Below Y.drew.heap.size Y.drew (w5.alloc (.cells #[.slice y9 2 c9] 112)) := lay hb5 _
                have hto6 : (w5.alloc (.cells #[.slice y9 2 c9] 112)).ownsRow 0 112 1 (.slice (some ⟨gu, 0, none⟩) m cu) m ls' := by
                  have := (HAy.out.below hb6).raw.til
                  rw [HLS.out] at this
                  exact this
                refine wpAnyH_ready (rs := [8]) (by kernel_rfl) (by simp) ?_
                refine AllReadyH.cons rfl (fun K hK => ?_) AllReadyH.nil
                refine step_appG _ rfl (.tmp 85) (.tmp 88) 91 112 iL _ 1 24 Tryz.underlying91 hiL hzL0 hzL1 hzL2 rfl (by decide) rfl 0 _ m ls' rfl hto6 (.slice (some ⟨w5.heap.size, 0, none⟩) 1 1) 1 [.slice y9 2 c9] rfl (Row.of_blk kX rfl 1 1) rfl (by simp [Value.oneCell']) (by omega) (by unfold maxLen; omega) (Nat.zero_le _) ?_
                intro v7 w7 h1 h3 h4
                have HA8 : AD w (w7.setCell ⟨g, 4, none⟩ v7) F ⟨g, hv0, .slice y5 (N + 1) c5, v7, ls' ++ [.slice y9 2 c9]⟩ { c with bs := c.bs ++ [⟨xh, xa, xu⟩] } (XS' ++ [lvl1 t]) ⟨xh, xa, xu⟩ := by
                  have hz : Y.drew.heap.size ≤ w5.heap.size := hb5.size
                  rw [← HLS.out] at h1
                  obtain ⟨r1, r2, r3⟩ := HAy.out.raw.til_app hb6 (y := .slice y9 2 c9) (us' := lvl1 t) (by rw [HT2.out]; exact own_base (ho5.alloc _) (Nat.zero_le _)) (fun k hk => (ho5.lt k hk).1) h1 h3 (fun k hk => (h4 k hk).imp id (fun h => by rw [World.size_alloc] at h; omega))
                  exact HAy.out.step r1 r2 r3
                have hblk7 := ((HAy.out.below hb6).raw.blk).grown h3 (fun e => (HAy.out.below hb6).raw.tags.2.2.1 e.symm)
                have q6 : w7.cell? ⟨g, 4, none⟩ = some (.slice (some ⟨gu, 0, none⟩) m cu) := hblk7.cell 4
                have q7 : w7.frozen? ⟨g, 4, none⟩ = false := hblk7.frozen 4
                obtain ⟨y7, c7, rfl⟩ := row_shape h1
                have HA9 : Hid _ := HA8
                clear HA8 h1 h3 h4 hblk7 kX hto6
                refine hK.out _ _ trivial (fun hHeld => ?_)
                clear hK K
                simp only [Act.put, List.getElem_toArray, List.getElem_cons_succ, List.getElem_cons_zero, List.setIfInBounds_toArray, List.set_cons_zero, List.set_cons_succ]
                refine wpAnyH_take (i := 9) (v := .pointer (some ⟨g, 3, none⟩)) rfl (by kernel_rfl) (by kernel_rfl) (by kernel_rfl) (fun _ _ _ h => h) (Or.inl ⟨by rfl, ?_⟩) hHeld ?_
                · intro u hu
                  go_simp
                simp only [Act.put, List.getElem_toArray, List.getElem_cons_succ, List.getElem_cons_zero, List.setIfInBounds_toArray, List.set_cons_zero, List.set_cons_succ]
                refine wpAnyH_take (i := 10) (v := .pointer (some ⟨g, 4, none⟩)) rfl (by kernel_rfl) (by kernel_rfl) (by kernel_rfl) (fun _ _ _ h => h) (Or.inl ⟨by rfl, ?_⟩) hHeld ?_
                · intro u hu
                  go_simp
                simp only [Act.put, List.getElem_toArray, List.getElem_cons_succ, List.getElem_cons_zero, List.setIfInBounds_toArray, List.set_cons_zero, List.set_cons_succ]
                refine wpAnyH_ready (rs := [11]) (by kernel_rfl) (by simp) ?_
                refine AllReadyH.cons rfl (fun K hK => ?_) AllReadyH.nil
                go_simp
                refine hK.out _ _ trivial (fun hHeld => ?_)
                clear hK K
                refine wpAnyH_done (by kernel_rfl) ?_ _
                go_wp2
                go_end0
                have HAF := HA9.out
                rw [← HF.out] at HAF
                exact ⟨rfl, _, HAF.raw, rfl, rfl, HAF.turn, HAF.new⟩
          · have h16' : ¬ (16 : Int) < (t.length : Int) := by omega
            have HF : Hid (LV = XS') := by unfold Hid; rw [← HNA.out, ← hXe, post_no htl h16]
            clear hto hv1 hv2 ht htl hXe hXl HA HR hj
            go_wp2
            go_region
            go_wp2
            go_end0
            have HA9 := HAd.out
            rw [← HF.out] at HA9
            exact ⟨rfl, _, HA9.raw, rfl, rfl, HA9.turn, HA9.new⟩

end Cu
end Go.Proofs.YtnjgdfmldjgloaaGreat
