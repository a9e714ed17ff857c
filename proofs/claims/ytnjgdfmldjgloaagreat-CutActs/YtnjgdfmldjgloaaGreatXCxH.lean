/- Put of the document's Cuts. -/
import Derived.Test.YtnjgdfmldjgloaaGreatXCxG
namespace Go.Proofs.YtnjgdfmldjgloaaGreat
open Go.RowKit
open Pl
namespace Cu

set_option maxRecDepth 100000 in
set_option maxHeartbeats 8000000 in
theorem rput_yes {w : World} {gr : Nat} {V0 : Value} {L : List (Rk × RQ)} (h : RS w gr V0 L) {Hs : List ByteArray} {Hb : List Bn} {F : List Ct} (hF : fstR L = allK Hs Hb F) {d : Dg} {hv gv : Value} (hd : DIn w d hv gv) (fr : ByteArray) (now : Int) (hf : fr.size ≤ maxLen) (hm : mayD d fr now = true) :
    Calls Tryz.prog 14 #[.pointer (some ⟨gr, 0, none⟩), .agg (dV d hv gv), .string fr, .int .i64 now] w fun e w' => PutRest w gr V0 L d fr now e w' := by
  obtain ⟨iB, hiB, hzB0, hzB1, hzB2⟩ := info_parts infoBg
  obtain ⟨iP, hiP, hzP0, hzP1, hzP2⟩ := info_parts infoP
  obtain ⟨m1, m2, m3, m4, m5⟩ := mayD_parts hm
  obtain ⟨hh1, hh8, hhn⟩ := hosts_parts m2
  obtain ⟨hg8, hgo⟩ := glue_parts m3
  obtain ⟨hfn, hcn⟩ := tell_parts m1
  have HOH : Hid (HsOk (d.hs.map fdB)) := host_ok m2
  have HNR : Hid (fdB d.c ≠ rootB) := fun e => by
    have h1 := tell_fd m1
    rw [e, tell_root] at h1
    cases h1
  have hdm0 := fun U (hU : Below w.heap.size w U) => delMay_any (hd.below hU) fr now hf true hm
  have hb0 : Below w.heap.size w (w.alloc (.cells (dV d hv gv) 39)) := lay (Below.refl _ _) _
  have hdm := hdm0 _ hb0
  clear hdm0
  have HPUT : Hid (putK (fstR L) d fr now = cutK ((fstR L).filter (keepK (fdB d.c) now)) ++ [newK d fr now]) := by unfold Hid putK; rw [hm]; rfl
  have HIN : Hid (DIn w d hv gv) := hd
  obtain ⟨xh, ch, hhv, _⟩ := hd.hc
  obtain ⟨xg, cg, hgv, _⟩ := hd.gr.src
  subst hhv hgv
  have HGS : Hid (∀ g ∈ d.gl, g.h.size ≤ maxLen) := hd.gss
  have HGR : Hid (Row w (.slice xg d.gl.length cg) d.gl.length (bC d.gl)) := hd.gr
  have hcs := hd.cs
  have HKEEP : Hid (∀ K, fstR K = (fstR L).filter (keepK (fdB d.c) now) → K.length = 129 → ∃ k : Nat, leastK (fstR K) K.length = (k : Int) ∧ k < 129) := fun K hK hl => by
    rw [hF, keep_of HNR.out] at hK
    have h2 : (F.filter (keepC (fdB d.c) now)).length = 128 := by
      have := congrArg List.length hK
      rw [fstR_len, hl] at this
      simp [allK] at this
      omega
    rw [hK, hl, least_of _ _ _ 127 (by omega)]
    have h3 := minK_lt (L := (F.filter (keepC (fdB d.c) now)).map enC) (i := 127 + 1) (by omega) (by rw [List.length_map]; omega)
    exact ⟨minK ((F.filter (keepC (fdB d.c) now)).map enC) (127 + 1) + 1, by push_cast; rfl, by omega⟩
  obtain ⟨cn, hs, gl, ttl⟩ := d
  unfold dV at *
  simp only at hh1 hh8 hhn hg8 hgo hfn hcn HOH HNR hdm hb0 HPUT HGS HGR hcs HKEEP ⊢
  have HRS : Hid (RS w gr V0 L) := h
  obtain ⟨NH, hNH⟩ : ∃ NH, NH = hs.length := ⟨_, rfl⟩
  obtain ⟨NL, hNL⟩ : ∃ NL, NL = gl.length := ⟨_, rfl⟩
  obtain ⟨nL, hnL⟩ : ∃ nL, nL = L.length := ⟨_, rfl⟩
  have HNH : Hid (NH = hs.length) := hNH
  have HNL : Hid (NL = gl.length) := hNL
  have HnL : Hid (nL = L.length) := hnL
  have hn129 : nL ≤ 129 := by rw [hnL]; exact h.len
  obtain ⟨yv, cv, hV0⟩ := row_shape h.all
  rw [← hnL] at hV0
  subst hV0
  rw [← hNH, ← hNL] at hdm hb0 ⊢
  rw [← hNL] at HGR
  have hN8 : NH ≤ 8 := by omega
  have hL8 : NL ≤ 8 := by omega
  obtain ⟨D, hD⟩ : ∃ D : Array Value, D = #[.string cn, .slice xh NH ch, .slice xg NL cg, .int .i64 ttl] := ⟨_, rfl⟩
  have HD : Hid (D = #[.string cn, .slice xh NH ch, .slice xg NL cg, .int .i64 ttl]) := hD
  have HGO : Hid (∀ g ∈ gl, isName g.h.data.toList = true ∧ (fdB g.h).size ≤ 255) := fun g hg => by
    have h1 := (hgo g hg).2
    have h2 : fdB g.h ∈ hs.map fdB := posL_mem.1 h1
    have h3 : isName g.h.data.toList = true := by
      cases hnm : isName g.h.data.toList with
      | true => rfl
      | false => exact absurd (fd_none hnm) (HOH.out.nm _ h2)
    exact ⟨h3, fd_255 h3⟩
  have HHN : Hid (∀ x ∈ hs.map fdB, x.size ≤ 255) := fun x hx => by
    obtain ⟨y, hy, rfl⟩ := List.mem_map.1 hx
    exact fd_255 (hhn y hy)
  obtain ⟨T, hT⟩ : ∃ T, T = lastI ttl := ⟨_, rfl⟩
  have hT1 : 1 ≤ T := by rw [hT]; exact lastI_lo _
  have hT2 : T ≤ 86400 := by rw [hT]; exact lastI_hi _
  have hla := fun u => lasts_any ttl u
  rw [← hT] at hla
  obtain ⟨ff, hff0⟩ : ∃ ff, ff = fdB fr := ⟨_, rfl⟩
  have hff := fun u => refFold_any fr u hf
  rw [show (⟨(foldR fr.data.toList).toArray⟩ : ByteArray) = ff from hff0.symm] at hff
  obtain ⟨f, hf0⟩ : ∃ f, f = fdB cn := ⟨_, rfl⟩
  have hfc := fun u => refFold_any cn u hcs
  rw [show (⟨(foldR cn.data.toList).toArray⟩ : ByteArray) = f from hf0.symm] at hfc
  obtain ⟨H, hH⟩ : ∃ H, H = hs.map fdB := ⟨_, rfl⟩
  have HFS : Hid (f.size ≤ 255 ∧ ff.size ≤ 255) := ⟨by rw [hf0]; exact fd_255 hcn, by rw [hff0]; exact fd_255 hfn⟩
  have HHL : Hid (H.length = NH) := by unfold Hid; rw [hH, List.length_map, hNH]
  have HNEW : Hid (newK ⟨cn, hs, gl, ttl⟩ fr now = ⟨f, ff, H, now + T, false, gl.foldl (glK f ff now) []⟩) := by unfold Hid newK; rw [hf0, hff0, hH, hT]
  rw [← hf0] at HPUT HKEEP HNR
  rw [← hH] at hdm HHN
  have hb1 := hb0
  obtain ⟨w1, hw1⟩ : ∃ w1, w1 = w.alloc (.cells #[.string cn, .slice xh NH ch, .slice xg NL cg, .int .i64 ttl] 39) := ⟨_, rfl⟩
  have hk0 := Blk.new w #[.string cn, .slice xh NH ch, .slice xg NL cg, .int .i64 ttl] 39
  have HK0 : Hid (Blk (w.alloc (.cells #[.string cn, .slice xh NH ch, .slice xg NL cg, .int .i64 ttl] 39)) w.heap.size #[.string cn, .slice xh NH ch, .slice xg NL cg, .int .i64 ttl] 39) := hk0
  have HB0 : Hid (Below w.heap.size w (w.alloc (.cells #[.string cn, .slice xh NH ch, .slice xg NL cg, .int .i64 ttl] 39))) := hb0
  clear h hd hm m1 m2 m3 hh1 hh8 hhn hg8 hgo hfn hcn hNH hNL hnL hD hT hff0 hf0 hH hb0 hb1 hw1 hf HIN hF hk0
  go_enter Tryz.func14, Tryz.ntmps14
  go_wp2_with (go_at_call 47; go_must (refine hdm.mono ?_); rintro e w1 ⟨V, rfl, hown, b1⟩; have hown := hown trivial)
  have hB1 := next HB0.out b1
  have k1 := HK0.out.below b1
  have HW1 : Hid (∀ U, Below w1.heap.size w1 U → PA w (U.alloc (.cells #[.string f, .string ff, V, .int .i64 (now + T), .bool false, .slice none 0 0] 69)) D ⟨U.heap.size, V, .slice none 0 0⟩ ⟨f, ff, H, now + T, false, []⟩) := fun U hU => by
    have hbU : Below w1.heap.size w1 (U.alloc (.cells #[.string f, .string ff, V, .int .i64 (now + T), .bool false, .slice none 0 0] 69)) := lay hU _
    refine ⟨next hB1 hbU, by rw [HD.out]; exact k1.below hbU, ⟨Blk.new U _ _, ?_, World.ownsRow_nil _ _ _ _, ⟨HFS.out.1, HFS.out.2, by show H.length ≤ 8; rw [HHL.out]; exact hN8, HHN.out, by simp, fun b hb => by simp at hb⟩⟩, ?_⟩
    · have := own_past hown hbU
      show World.ownsRow _ 0 9 1 V H.length (tC H)
      rw [HHL.out]
      exact own_base this (Nat.zero_le _)
    · have hsz := (next hB1 hU).size
      rintro k (e | e | e)
      · have e2 : k = U.heap.size := e
        omega
      · have := (hown.lt k e).1
        rw [World.size_alloc] at this
        omega
      · simp [Value.ownBlock] at e
  have KD : Hid (∀ U, Below w1.heap.size w1 U → Blk U w.heap.size #[.string cn, .slice xh NH ch, .slice xg NL cg, .int .i64 ttl] 39) := fun U hU => k1.below hU
  obtain ⟨yV, cV, hVs⟩ := row_shape hown
  subst hVs
  clear hdm hown b1 k1
  have hwr : IntKind.i64.wrap (now + T) = now + T := by rw [IntKind.wrap_i64]; omega
  refine wp_region_held_drew (S := fun u => Below w1.heap.size w1 u) (by kernel_rfl) (Below.refl _ _).drew (fun hHeld => ?_)
  refine wpAnyH_take (i := 0) (v := .pointer (some ⟨w.heap.size, 0, none⟩)) rfl (by kernel_rfl) (by kernel_rfl) (by kernel_rfl) (fun _ _ _ h => h) (Or.inl ⟨by rfl, ?_⟩) hHeld ?_
  · intro u hu
    go_simp
  simp only [Act.put, List.getElem_toArray, List.getElem_cons_zero, List.setIfInBounds_toArray, List.set_cons_zero, List.set_cons_succ]
  refine wpAnyH_take (i := 1) (v := .string cn) rfl (by kernel_rfl) (by kernel_rfl) (by kernel_rfl) (fun _ _ _ h => h) (Or.inl ⟨by rfl, ?_⟩) hHeld ?_
  · intro u hu
    have a0 := (KD.out u hu).cell 0; simp only [List.getElem?_toArray, List.getElem?_cons_zero] at a0
    go_simp
  simp only [Act.put, List.getElem_toArray, List.getElem_cons_succ, List.getElem_cons_zero, List.setIfInBounds_toArray, List.set_cons_zero, List.set_cons_succ]
  refine wpAnyH_take (i := 3) (v := .string fr) rfl (by kernel_rfl) (by kernel_rfl) (by kernel_rfl) (fun _ _ _ h => h) (Or.inl ⟨by rfl, ?_⟩) hHeld ?_
  · intro u hu
    go_simp
  simp only [Act.put, List.getElem_toArray, List.getElem_cons_succ, List.getElem_cons_zero, List.setIfInBounds_toArray, List.set_cons_zero, List.set_cons_succ]
  refine wpAnyH_take (i := 5) (v := .slice yV NH cV) rfl (by kernel_rfl) (by kernel_rfl) (by kernel_rfl) (fun _ _ _ h => h) (Or.inl ⟨by rfl, ?_⟩) hHeld ?_
  · intro u hu
    go_simp
  simp only [Act.put, List.getElem_toArray, List.getElem_cons_succ, List.getElem_cons_zero, List.setIfInBounds_toArray, List.set_cons_zero, List.set_cons_succ]
  refine wpAnyH_take (i := 6) (v := .int .i64 now) rfl (by kernel_rfl) (by kernel_rfl) (by kernel_rfl) (fun _ _ _ h => h) (Or.inl ⟨by rfl, ?_⟩) hHeld ?_
  · intro u hu
    go_simp
  simp only [Act.put, List.getElem_toArray, List.getElem_cons_succ, List.getElem_cons_zero, List.setIfInBounds_toArray, List.set_cons_zero, List.set_cons_succ]
  refine wpAnyH_take (i := 7) (v := .pointer (some ⟨w.heap.size, 3, none⟩)) rfl (by kernel_rfl) (by kernel_rfl) (by kernel_rfl) (fun _ _ _ h => h) (Or.inl ⟨by rfl, ?_⟩) hHeld ?_
  · intro u hu
    go_simp
  simp only [Act.put, List.getElem_toArray, List.getElem_cons_succ, List.getElem_cons_zero, List.setIfInBounds_toArray, List.set_cons_zero, List.set_cons_succ]
  refine wpAnyH_take (i := 8) (v := .int .i64 ttl) rfl (by kernel_rfl) (by kernel_rfl) (by kernel_rfl) (fun _ _ _ h => h) (Or.inl ⟨by rfl, ?_⟩) hHeld ?_
  · intro u hu
    have a0 := (KD.out u hu).cell 3; simp only [List.getElem?_toArray, List.getElem?_cons_succ, List.getElem?_cons_zero] at a0
    go_simp
  simp only [Act.put, List.getElem_toArray, List.getElem_cons_succ, List.getElem_cons_zero, List.setIfInBounds_toArray, List.set_cons_zero, List.set_cons_succ]
  refine wpAnyH_ready (rs := [2]) (by kernel_rfl) (by simp) ?_
  refine AllReadyH.cons rfl (fun K hK => ?_) AllReadyH.nil
  go_simp
  refine (hfc _).mono ?_
  rintro e w2 ⟨rfl, b2⟩
  replace hHeld := next hHeld b2
  go_simp
  refine hK.out _ _ hHeld (fun hHeld => ?_)
  clear hK K b2
  refine wpAnyH_ready (rs := [4]) (by kernel_rfl) (by simp) ?_
  refine AllReadyH.cons rfl (fun K hK => ?_) AllReadyH.nil
  go_simp
  refine (hff _).mono ?_
  rintro e w3 ⟨rfl, b3⟩
  replace hHeld := next hHeld b3
  go_simp
  refine hK.out _ _ hHeld (fun hHeld => ?_)
  clear hK K b3
  refine wpAnyH_ready (rs := [9]) (by kernel_rfl) (by simp) ?_
  refine AllReadyH.cons rfl (fun K hK => ?_) AllReadyH.nil
  go_simp
  refine (hla _).mono ?_
  rintro e w' ⟨rfl, hw⟩
  obtain rfl := hw.symm
  go_simp
  refine hK.out _ _ hHeld (fun hHeld => ?_)
  clear hK K hw
  have hHW := hHeld
  refine wpAnyH_take (i := 10) (v := .int .i64 (IntKind.i64.wrap (now + T))) rfl (by kernel_rfl) (by kernel_rfl) (by kernel_rfl) (fun _ _ _ h => h) (Or.inl ⟨by rfl, ?_⟩) hHeld ?_
  · intro u hu
    go_simp
  simp only [Act.put, List.getElem_toArray, List.getElem_cons_succ, List.getElem_cons_zero, List.setIfInBounds_toArray, List.set_cons_zero, List.set_cons_succ]
  rw [hwr]
  refine wpAnyH_take (i := 11) (v := .agg #[.string f, .string ff, .slice yV NH cV, .int .i64 (now + T), .bool false, .slice none 0 0]) rfl (by kernel_rfl) (by kernel_rfl) (by kernel_rfl) (fun _ _ _ h => h) (Or.inl ⟨by rfl, ?_⟩) hHeld ?_
  · intro u hu
    go_simp
  simp only [Act.put, List.getElem_toArray, List.getElem_cons_succ, List.getElem_cons_zero, List.setIfInBounds_toArray, List.set_cons_zero, List.set_cons_succ]
  refine wpAnyH_ready (rs := [12]) (by kernel_rfl) (by simp) ?_
  refine AllReadyH.cons rfl (fun K hK => ?_) AllReadyH.nil
  go_simp
  refine hK.out _ _ (lay hHeld _) (fun hHeld => ?_)
  clear hK K
  refine wpAnyH_take (i := 13) (v := .pointer (some ⟨w3.heap.size, 0, none⟩)) rfl (by kernel_rfl) (by kernel_rfl) (by kernel_rfl) (fun _ _ _ h => h) (Or.inl ⟨by rfl, ?_⟩) hHeld ?_
  · intro u hu
    go_simp
  simp only [Act.put, List.getElem_toArray, List.getElem_cons_succ, List.getElem_cons_zero, List.setIfInBounds_toArray, List.set_cons_zero, List.set_cons_succ]
  refine wpAnyH_done (by kernel_rfl) ?_ _
  have HPA0 := HW1.out w3 hHW
  obtain ⟨p, hp0⟩ : ∃ p, p = w3.heap.size := ⟨_, rfl⟩
  obtain ⟨W0, hW0⟩ : ∃ W, W = w3.alloc (.cells #[.string f, .string ff, .slice yV NH cV, .int .i64 (now + T), .bool false, .slice none 0 0] 69) := ⟨_, rfl⟩
  rw [← hW0, ← hp0] at HPA0
  rw [← hW0, ← hp0]
  obtain ⟨V, hV⟩ : ∃ V : Value, V = .slice yV NH cV := ⟨_, rfl⟩
  rw [← hV] at HPA0 ⊢
  clear hV
  have HPS : Hid (PA w W0 D ⟨p, V, .slice none 0 0⟩ ⟨f, ff, H, now + T, false, []⟩) := HPA0
  clear hHeld hHW HPA0 hp0 hW0 HW1 KD hfc hff hla hwr
  have HD2 : Hid (∀ U q x, PA w U D q x → U.cell? ⟨w.heap.size, 2, none⟩ = some (.slice xg NL cg)) := fun U q x hU => by have := hU.blk.cell 2; rw [HD.out] at this; exact this
  have hW0c := HD2.out _ _ _ HPS.out
  go_wp2
  clear hW0c
  go_loopw [12] (fun k wr => ∃ (j m cb : Nat) (yb : Option Addr) (B : List Bn), j ≤ NL ∧ m ≤ j ∧ k = .int .i64 (j : Int) ∧ Hid (B = (gl.take j).foldl (glK f ff now) [] ∧ m = B.length) ∧ Hid (PA w wr D ⟨p, V, .slice yb m cb⟩ ⟨f, ff, H, now + T, false, B⟩)) (fun k _ => NL - (intOf k).toNat)
  case atStart => exact ⟨0, 0, 0, none, [], Nat.zero_le _, Nat.le_refl _, rfl, ⟨rfl, rfl⟩, HPS⟩
  case round =>
    clear HPS
    obtain ⟨j, m, cb, yb, B, hj, hmj, rfl, HBB, HX⟩ := hrel
    have q2 := HD2.out _ _ _ HX.out
    by_cases hjn : j < NL
    · have hjn' : (j : Int) < (NL : Int) := by omega
      have hju : j < gl.length := by have := HNL.out; omega
      obtain ⟨g, o, cap, hx, hc⟩ := row_at (HGR.out.below HX.out.bel) (by omega)
      simp only [Value.slice.injEq] at hx
      obtain ⟨rfl, -, rfl⟩ := hx
      obtain ⟨⟨xc, xh2, xa, xf, xu⟩, hp⟩ : ∃ z, z = gl[j] := ⟨_, rfl⟩
      have hfl := fun i hi => atBg hju i hi
      rw [← hp] at hfl
      have d0 := hc (j * 5 + 0) _ (hfl 0 (by omega))
      have d1 := hc (j * 5 + 1) _ (hfl 1 (by omega))
      have d2 := hc (j * 5 + 2) _ (hfl 2 (by omega))
      have d3 := hc (j * 5 + 3) _ (hfl 3 (by omega))
      have d4 := hc (j * 5 + 4) _ (hfl 4 (by omega))
      simp only [Nat.add_zero, ← Nat.add_assoc] at d0 d1 d2 d3 d4
      have hpl : xh2.size ≤ maxLen := by have := HGS.out _ (List.getElem_mem hju); rw [← hp] at this; exact this
      obtain ⟨h, hh0⟩ : ∃ h, h = fdB xh2 := ⟨_, rfl⟩
      have hfo := fun u => refFold_any xh2 u hpl
      rw [show (⟨(foldR xh2.data.toList).toArray⟩ : ByteArray) = h from hh0.symm] at hfo
      have HH5 : Hid (h.size ≤ 255) := by have := (HGO.out _ (List.getElem_mem hju)).2; rw [← hp] at this; unfold Hid; rw [hh0]; exact this
      obtain ⟨T2, hT2'⟩ : ∃ T2, T2 = lastI xu := ⟨_, rfl⟩
      have hT3 : 1 ≤ T2 := by rw [hT2']; exact lastI_lo _
      have hT4 : T2 ≤ 86400 := by rw [hT2']; exact lastI_hi _
      have hl2 := fun u => lasts_any xu u
      rw [← hT2'] at hl2
      have HTK : Hid ((gl.take (j + 1)).foldl (glK f ff now) [] = if boundK B h xa now then B else B ++ [⟨f, h, xa, ff, now + T2⟩]) := by
        unfold Hid
        rw [List.take_succ_eq_append_getElem hju, List.foldl_append, ← HBB.out.1, ← hp, hh0, hT2']
        rfl
      have HMB : Hid (m = B.length) := HBB.out.2
      obtain ⟨G, hG⟩ : ∃ G, G = wr.heap.size := ⟨_, rfl⟩
      obtain ⟨Y, hY⟩ : ∃ Y, Y = wr.alloc (.cells #[.string xc, .string xh2, .int .i64 xa, .string xf, .int .i64 xu] 65) := ⟨_, rfl⟩
      have HY : Hid (∀ u, Below Y.heap.size Y u → PA w u D ⟨p, V, .slice yb m cb⟩ ⟨f, ff, H, now + T, false, B⟩ ∧ Blk u G #[.string xc, .string xh2, .int .i64 xa, .string xf, .int .i64 xu] 65) := fun u hu => by
        refine ⟨(HX.out.below ?_).below hu, Blk.below ?_ hu⟩
        · rw [hY]; exact lay (Below.refl _ _) _
        · rw [hY, hG]; exact Blk.new wr _ _
      have HLT : Hid (∀ k, (Value.slice yb m cb).ownBlock = some k → k < G) := fun k hk => by rw [hG]; exact (HX.out.ct.bs.lt k hk).2
      clear hc hfl hp hh0 hT2' HBB
      have HYY : Hid (∀ u, Below (wr.alloc (.cells #[.string xc, .string xh2, .int .i64 xa, .string xf, .int .i64 xu] 65)).heap.size (wr.alloc (.cells #[.string xc, .string xh2, .int .i64 xa, .string xf, .int .i64 xu] 65)) u → PA w u D ⟨p, V, .slice yb m cb⟩ ⟨f, ff, H, now + T, false, B⟩ ∧ Blk u G #[.string xc, .string xh2, .int .i64 xa, .string xf, .int .i64 xu] 65) := by rw [← hY]; exact HY
      go_wp2_with (go_at_call 35; go_must (refine (hfo _).mono ?_); rintro e w2 ⟨rfl, b2⟩; have H2 := HYY.out w2 b2; clear b2)
      rw [← hG]
      obtain ⟨Z, hZ⟩ : ∃ Z, Z = w2 := ⟨_, rfl⟩
      rw [← hZ] at H2 ⊢
      have HZ : Hid (∀ u, Below Z.heap.size Z u → PA w u D ⟨p, V, .slice yb m cb⟩ ⟨f, ff, H, now + T, false, B⟩ ∧ Blk u G #[.string xc, .string xh2, .int .i64 xa, .string xf, .int .i64 xu] 65) := fun u hu => ⟨H2.1.below hu, H2.2.below hu⟩
      have hbd := fun u (hu : Below Z.heap.size Z u) r (hr : boundK B h xa now = r) => boundR_any (.slice yb m cb) B h xa now u (by have h9 := Row.of_own (HZ.out u hu).1.ct.bs; rw [HMB.out]; rw [HMB.out] at h9; exact h9) (by rw [← HMB.out]; unfold maxLen; omega) r hr
      clear d0 d1 d2 d3 d4 hY hG HX q2 HY HYY hfo H2 hZ
      refine wp_region_held_drew (S := fun u => Below Z.heap.size Z u) (by kernel_rfl) (Below.refl _ _).drew (fun hHeld => ?_)
      refine wpAnyH_take (i := 0) (v := .pointer (some ⟨p, 0, none⟩)) rfl (by kernel_rfl) (by kernel_rfl) (by kernel_rfl) (fun _ _ _ h => h) (Or.inl ⟨by rfl, ?_⟩) hHeld ?_
      · intro u hu
        go_simp
      simp only [Act.put, List.getElem_toArray, List.getElem_cons_zero, List.setIfInBounds_toArray, List.set_cons_zero, List.set_cons_succ]
      refine wpAnyH_take (i := 1) (v := .pointer (some ⟨p, 0, none⟩)) rfl (by kernel_rfl) (by kernel_rfl) (by kernel_rfl) (fun _ _ _ h => h) (Or.inl ⟨by rfl, ?_⟩) hHeld ?_
      · intro u hu
        go_simp
      simp only [Act.put, List.getElem_toArray, List.getElem_cons_succ, List.getElem_cons_zero, List.setIfInBounds_toArray, List.set_cons_zero, List.set_cons_succ]
      refine wpAnyH_take (i := 2) (v := .pointer (some ⟨p, 5, none⟩)) rfl (by kernel_rfl) (by kernel_rfl) (by kernel_rfl) (fun _ _ _ h => h) (Or.inl ⟨by rfl, ?_⟩) hHeld ?_
      · intro u hu
        go_simp
      simp only [Act.put, List.getElem_toArray, List.getElem_cons_succ, List.getElem_cons_zero, List.setIfInBounds_toArray, List.set_cons_zero, List.set_cons_succ]
      refine wpAnyH_take (i := 3) (v := .slice yb m cb) rfl (by kernel_rfl) (by kernel_rfl) (by kernel_rfl) (fun _ _ _ h => h) (Or.inl ⟨by rfl, ?_⟩) hHeld ?_
      · intro u hu
        have a0 : u.cell? ⟨p, 5, none⟩ = some (.slice yb m cb) := (HZ.out u hu).1.ct.blk.cell 5
        go_simp
      simp only [Act.put, List.getElem_toArray, List.getElem_cons_succ, List.getElem_cons_zero, List.setIfInBounds_toArray, List.set_cons_zero, List.set_cons_succ]
      refine wpAnyH_take (i := 4) (v := .string h) rfl (by kernel_rfl) (by kernel_rfl) (by kernel_rfl) (fun _ _ _ h => h) (Or.inl ⟨by rfl, ?_⟩) hHeld ?_
      · intro u hu
        go_simp
      simp only [Act.put, List.getElem_toArray, List.getElem_cons_succ, List.getElem_cons_zero, List.setIfInBounds_toArray, List.set_cons_zero, List.set_cons_succ]
      refine wpAnyH_take (i := 5) (v := .pointer (some ⟨G, 2, none⟩)) rfl (by kernel_rfl) (by kernel_rfl) (by kernel_rfl) (fun _ _ _ h => h) (Or.inl ⟨by rfl, ?_⟩) hHeld ?_
      · intro u hu
        go_simp
      simp only [Act.put, List.getElem_toArray, List.getElem_cons_succ, List.getElem_cons_zero, List.setIfInBounds_toArray, List.set_cons_zero, List.set_cons_succ]
      refine wpAnyH_take (i := 6) (v := .int .i64 xa) rfl (by kernel_rfl) (by kernel_rfl) (by kernel_rfl) (fun _ _ _ h => h) (Or.inl ⟨by rfl, ?_⟩) hHeld ?_
      · intro u hu
        have a0 : u.cell? ⟨G, 2, none⟩ = some (.int .i64 xa) := (HZ.out u hu).2.cell 2
        go_simp
      simp only [Act.put, List.getElem_toArray, List.getElem_cons_succ, List.getElem_cons_zero, List.setIfInBounds_toArray, List.set_cons_zero, List.set_cons_succ]
      refine wpAnyH_take (i := 7) (v := .int .i64 now) rfl (by kernel_rfl) (by kernel_rfl) (by kernel_rfl) (fun _ _ _ h => h) (Or.inl ⟨by rfl, ?_⟩) hHeld ?_
      · intro u hu
        go_simp
      simp only [Act.put, List.getElem_toArray, List.getElem_cons_succ, List.getElem_cons_zero, List.setIfInBounds_toArray, List.set_cons_zero, List.set_cons_succ]
      cases hbr : boundK B h xa now with
      | true =>
        have hbd := fun u hu => hbd u hu true hbr
        have HFY : Hid ((gl.take (j + 1)).foldl (glK f ff now) [] = B) := by unfold Hid; rw [HTK.out, hbr]; rfl
        refine wpAnyH_ready (rs := [8]) (by kernel_rfl) (by simp) ?_
        refine AllReadyH.cons rfl (fun K hK => ?_) AllReadyH.nil
        go_simp
        refine (hbd _ hHeld).mono ?_
        rintro e w' ⟨rfl, hw⟩
        obtain rfl := hw.symm
        go_simp
        refine hK.out _ _ hHeld (fun hHeld => ?_)
        clear hK K hw
        refine wpAnyH_take (i := 9) (v := .bool false) rfl (by kernel_rfl) (by kernel_rfl) (by kernel_rfl) (fun _ _ _ h => h) (Or.inl ⟨by rfl, ?_⟩) hHeld ?_
        · intro u hu
          go_simp
        simp only [Act.put, List.getElem_toArray, List.getElem_cons_succ, List.getElem_cons_zero, List.setIfInBounds_toArray, List.set_cons_zero, List.set_cons_succ]
        refine wpAnyH_done (by kernel_rfl) ?_ _
        have HX9 := (HZ.out _ hHeld).1
        clear hbd hl2 hbr HTK HZ hHeld
        go_wp2
        go_roundw
        case rel => exact ⟨j + 1, m, cb, yb, B, by omega, by omega, by go_num, ⟨HFY.out.symm, HMB.out⟩, HX9⟩
        case measure => simp [intOf]; omega
      | false =>
        have hbd := fun u hu => hbd u hu false hbr
        have HFY : Hid (B ++ [⟨f, h, xa, ff, now + T2⟩] = (gl.take (j + 1)).foldl (glK f ff now) []) := by unfold Hid; rw [HTK.out, hbr]; rfl
        have HOB : Hid (OkB ⟨f, h, xa, ff, now + T2⟩) := ⟨HFS.out.1, HH5.out, HFS.out.2⟩
        refine wpAnyH_ready (rs := [8]) (by kernel_rfl) (by simp) ?_
        refine AllReadyH.cons rfl (fun K hK => ?_) AllReadyH.nil
        go_simp
        refine (hbd _ hHeld).mono ?_
        rintro e w' ⟨rfl, hw⟩
        obtain rfl := hw.symm
        go_simp
        refine hK.out _ _ hHeld (fun hHeld => ?_)
        clear hK K hw
        refine wpAnyH_take (i := 9) (v := .bool true) rfl (by kernel_rfl) (by kernel_rfl) (by kernel_rfl) (fun _ _ _ h => h) (Or.inl ⟨by rfl, ?_⟩) hHeld ?_
        · intro u hu
          go_simp
        simp only [Act.put, List.getElem_toArray, List.getElem_cons_succ, List.getElem_cons_zero, List.setIfInBounds_toArray, List.set_cons_zero, List.set_cons_succ]
        refine wpAnyH_done (by kernel_rfl) ?_ _
        have hZ9 := HZ.out _ hHeld
        obtain ⟨w5, hw5⟩ : ∃ w5, w5 = Z.drew := ⟨_, rfl⟩
        rw [← hw5] at hZ9 ⊢
        have HX6 : Hid (PA w w5 D ⟨p, V, .slice yb m cb⟩ ⟨f, ff, H, now + T, false, B⟩) := hZ9.1
        have hG5 := hZ9.2
        clear hbd hbr HTK HZ hHeld hw5 hZ9
        go_wp2
        have hwr2 : IntKind.i64.wrap (now + T2) = now + T2 := by rw [IntKind.wrap_i64]; omega
        have hto : w5.ownsRow 0 65 5 (.slice yb m cb) m (bC B) := by have h9 := HX6.out.ct.bs; rw [show (⟨f, ff, H, now + T, false, B⟩ : Rk).bs.length = m from HMB.out.symm] at h9; exact h9
        have hXd : Blk (w5.alloc (.cells #[.string f, .string h, .int .i64 xa, .string ff, .int .i64 (now + T2)] 65)).drew w5.heap.size #[.string f, .string h, .int .i64 xa, .string ff, .int .i64 (now + T2)] 65 := Blk.new w5 #[.string f, .string h, .int .i64 xa, .string ff, .int .i64 (now + T2)] 65
        have hbd : Below w5.heap.size w5 (w5.alloc (.cells #[.string f, .string h, .int .i64 xa, .string ff, .int .i64 (now + T2)] 65)).drew := (lay (Below.refl _ _) _).drew
        have c1 : w5.drew.cell? ⟨p, 5, none⟩ = some (.slice yb m cb) := HX6.out.ct.blk.cell 5
        have c2 : (w5.alloc (.cells #[.string f, .string h, .int .i64 xa, .string ff, .int .i64 (now + T2)] 65)).cell? ⟨p, 5, none⟩ = some (.slice yb m cb) := (HX6.out.ct.blk.below hbd).cell 5
        have hto6 := own_past hto hbd
        have HBD : Hid (Below w5.heap.size w5 (w5.alloc (.cells #[.string f, .string h, .int .i64 xa, .string ff, .int .i64 (now + T2)] 65)).drew) := hbd
        clear hto hbd
        refine wp_region_held_drew (S := fun u => (∃ z, Blk u p #[.string f, .string ff, V, .int .i64 (now + T), .bool false, z] 69) ∧ Blk u G #[.string xc, .string xh2, .int .i64 xa, .string xf, .int .i64 xu] 65) (by kernel_rfl) ⟨⟨_, HX6.out.ct.blk.below (Below.refl _ _).drew⟩, hG5.below (Below.refl _ _).drew⟩ (fun hHeld => ?_)
        refine wpAnyH_take (i := 0) (v := .pointer (some ⟨p, 0, none⟩)) rfl (by kernel_rfl) (by kernel_rfl) (by kernel_rfl) (fun _ _ _ h => h) (Or.inl ⟨by rfl, ?_⟩) hHeld ?_
        · intro u hu
          go_simp
        simp only [Act.put, List.getElem_toArray, List.getElem_cons_zero, List.setIfInBounds_toArray, List.set_cons_zero, List.set_cons_succ]
        refine wpAnyH_take (i := 1) (v := .pointer (some ⟨p, 0, none⟩)) rfl (by kernel_rfl) (by kernel_rfl) (by kernel_rfl) (fun _ _ _ h => h) (Or.inl ⟨by rfl, ?_⟩) hHeld ?_
        · intro u hu
          go_simp
        simp only [Act.put, List.getElem_toArray, List.getElem_cons_succ, List.getElem_cons_zero, List.setIfInBounds_toArray, List.set_cons_zero, List.set_cons_succ]
        refine wpAnyH_take (i := 2) (v := .pointer (some ⟨p, 0, none⟩)) rfl (by kernel_rfl) (by kernel_rfl) (by kernel_rfl) (fun _ _ _ h => h) (Or.inl ⟨by rfl, ?_⟩) hHeld ?_
        · intro u hu
          go_simp
        simp only [Act.put, List.getElem_toArray, List.getElem_cons_succ, List.getElem_cons_zero, List.setIfInBounds_toArray, List.set_cons_zero, List.set_cons_succ]
        refine wpAnyH_take (i := 3) (v := .pointer (some ⟨p, 5, none⟩)) rfl (by kernel_rfl) (by kernel_rfl) (by kernel_rfl) (fun _ _ _ h => h) (Or.inl ⟨by rfl, ?_⟩) hHeld ?_
        · intro u hu
          go_simp
        simp only [Act.put, List.getElem_toArray, List.getElem_cons_succ, List.getElem_cons_zero, List.setIfInBounds_toArray, List.set_cons_zero, List.set_cons_succ]
        refine wpAnyH_take (i := 5) (v := .pointer (some ⟨p, 0, none⟩)) rfl (by kernel_rfl) (by kernel_rfl) (by kernel_rfl) (fun _ _ _ h => h) (Or.inl ⟨by rfl, ?_⟩) hHeld ?_
        · intro u hu
          go_simp
        simp only [Act.put, List.getElem_toArray, List.getElem_cons_succ, List.getElem_cons_zero, List.setIfInBounds_toArray, List.set_cons_zero, List.set_cons_succ]
        refine wpAnyH_take (i := 6) (v := .pointer (some ⟨p, 0, none⟩)) rfl (by kernel_rfl) (by kernel_rfl) (by kernel_rfl) (fun _ _ _ h => h) (Or.inl ⟨by rfl, ?_⟩) hHeld ?_
        · intro u hu
          go_simp
        simp only [Act.put, List.getElem_toArray, List.getElem_cons_succ, List.getElem_cons_zero, List.setIfInBounds_toArray, List.set_cons_zero, List.set_cons_succ]
        refine wpAnyH_take (i := 7) (v := .pointer (some ⟨p, 0, none⟩)) rfl (by kernel_rfl) (by kernel_rfl) (by kernel_rfl) (fun _ _ _ h => h) (Or.inl ⟨by rfl, ?_⟩) hHeld ?_
        · intro u hu
          go_simp
        simp only [Act.put, List.getElem_toArray, List.getElem_cons_succ, List.getElem_cons_zero, List.setIfInBounds_toArray, List.set_cons_zero, List.set_cons_succ]
        refine wpAnyH_take (i := 8) (v := .string f) rfl (by kernel_rfl) (by kernel_rfl) (by kernel_rfl) (fun _ _ _ h => h) (Or.inl ⟨by rfl, ?_⟩) hHeld ?_
        · intro u hu
          obtain ⟨⟨z, k1⟩, k2⟩ := hu; have a0 := k1.cell 0; simp only [List.getElem?_toArray, List.getElem?_cons_zero] at a0; clear k1 k2
          go_simp
        simp only [Act.put, List.getElem_toArray, List.getElem_cons_succ, List.getElem_cons_zero, List.setIfInBounds_toArray, List.set_cons_zero, List.set_cons_succ]
        refine wpAnyH_take (i := 9) (v := .string h) rfl (by kernel_rfl) (by kernel_rfl) (by kernel_rfl) (fun _ _ _ h => h) (Or.inl ⟨by rfl, ?_⟩) hHeld ?_
        · intro u hu
          go_simp
        simp only [Act.put, List.getElem_toArray, List.getElem_cons_succ, List.getElem_cons_zero, List.setIfInBounds_toArray, List.set_cons_zero, List.set_cons_succ]
        refine wpAnyH_take (i := 10) (v := .pointer (some ⟨G, 2, none⟩)) rfl (by kernel_rfl) (by kernel_rfl) (by kernel_rfl) (fun _ _ _ h => h) (Or.inl ⟨by rfl, ?_⟩) hHeld ?_
        · intro u hu
          go_simp
        simp only [Act.put, List.getElem_toArray, List.getElem_cons_succ, List.getElem_cons_zero, List.setIfInBounds_toArray, List.set_cons_zero, List.set_cons_succ]
        refine wpAnyH_take (i := 11) (v := .int .i64 xa) rfl (by kernel_rfl) (by kernel_rfl) (by kernel_rfl) (fun _ _ _ h => h) (Or.inl ⟨by rfl, ?_⟩) hHeld ?_
        · intro u hu
          obtain ⟨⟨z, k1⟩, k2⟩ := hu; have a0 := k2.cell 2; simp only [List.getElem?_toArray, List.getElem?_cons_succ, List.getElem?_cons_zero] at a0; clear k1 k2
          go_simp
        simp only [Act.put, List.getElem_toArray, List.getElem_cons_succ, List.getElem_cons_zero, List.setIfInBounds_toArray, List.set_cons_zero, List.set_cons_succ]
        refine wpAnyH_take (i := 12) (v := .pointer (some ⟨p, 0, none⟩)) rfl (by kernel_rfl) (by kernel_rfl) (by kernel_rfl) (fun _ _ _ h => h) (Or.inl ⟨by rfl, ?_⟩) hHeld ?_
        · intro u hu
          go_simp
        simp only [Act.put, List.getElem_toArray, List.getElem_cons_succ, List.getElem_cons_zero, List.setIfInBounds_toArray, List.set_cons_zero, List.set_cons_succ]
        refine wpAnyH_take (i := 13) (v := .pointer (some ⟨p, 0, none⟩)) rfl (by kernel_rfl) (by kernel_rfl) (by kernel_rfl) (fun _ _ _ h => h) (Or.inl ⟨by rfl, ?_⟩) hHeld ?_
        · intro u hu
          go_simp
        simp only [Act.put, List.getElem_toArray, List.getElem_cons_succ, List.getElem_cons_zero, List.setIfInBounds_toArray, List.set_cons_zero, List.set_cons_succ]
        refine wpAnyH_take (i := 14) (v := .pointer (some ⟨p, 1, none⟩)) rfl (by kernel_rfl) (by kernel_rfl) (by kernel_rfl) (fun _ _ _ h => h) (Or.inl ⟨by rfl, ?_⟩) hHeld ?_
        · intro u hu
          go_simp
        simp only [Act.put, List.getElem_toArray, List.getElem_cons_succ, List.getElem_cons_zero, List.setIfInBounds_toArray, List.set_cons_zero, List.set_cons_succ]
        refine wpAnyH_take (i := 15) (v := .string ff) rfl (by kernel_rfl) (by kernel_rfl) (by kernel_rfl) (fun _ _ _ h => h) (Or.inl ⟨by rfl, ?_⟩) hHeld ?_
        · intro u hu
          obtain ⟨⟨z, k1⟩, k2⟩ := hu; have a0 := k1.cell 1; simp only [List.getElem?_toArray, List.getElem?_cons_succ, List.getElem?_cons_zero] at a0; clear k1 k2
          go_simp
        simp only [Act.put, List.getElem_toArray, List.getElem_cons_succ, List.getElem_cons_zero, List.setIfInBounds_toArray, List.set_cons_zero, List.set_cons_succ]
        refine wpAnyH_take (i := 16) (v := .int .i64 now) rfl (by kernel_rfl) (by kernel_rfl) (by kernel_rfl) (fun _ _ _ h => h) (Or.inl ⟨by rfl, ?_⟩) hHeld ?_
        · intro u hu
          go_simp
        simp only [Act.put, List.getElem_toArray, List.getElem_cons_succ, List.getElem_cons_zero, List.setIfInBounds_toArray, List.set_cons_zero, List.set_cons_succ]
        refine wpAnyH_take (i := 17) (v := .pointer (some ⟨G, 4, none⟩)) rfl (by kernel_rfl) (by kernel_rfl) (by kernel_rfl) (fun _ _ _ h => h) (Or.inl ⟨by rfl, ?_⟩) hHeld ?_
        · intro u hu
          go_simp
        simp only [Act.put, List.getElem_toArray, List.getElem_cons_succ, List.getElem_cons_zero, List.setIfInBounds_toArray, List.set_cons_zero, List.set_cons_succ]
        refine wpAnyH_take (i := 18) (v := .int .i64 xu) rfl (by kernel_rfl) (by kernel_rfl) (by kernel_rfl) (fun _ _ _ h => h) (Or.inl ⟨by rfl, ?_⟩) hHeld ?_
        · intro u hu
          obtain ⟨⟨z, k1⟩, k2⟩ := hu; have a0 := k2.cell 4; simp only [List.getElem?_toArray, List.getElem?_cons_succ, List.getElem?_cons_zero] at a0; clear k1 k2
          go_simp
        simp only [Act.put, List.getElem_toArray, List.getElem_cons_succ, List.getElem_cons_zero, List.setIfInBounds_toArray, List.set_cons_zero, List.set_cons_succ]
        refine wpAnyH_ready (rs := [4, 19]) (by kernel_rfl) (by simp) ?_
        refine AllReadyH.cons rfl (fun K hK => ?_) (AllReadyH.cons rfl (fun K hK => ?_) AllReadyH.nil)
        · skip
          go_simp
          refine hK.out _ _ hHeld (fun hHeld => ?_)
          clear hK K
          refine wpAnyH_ready (rs := [19]) (by kernel_rfl) (by simp) ?_
          refine AllReadyH.cons rfl (fun K hK => ?_) AllReadyH.nil
          go_simp
          refine (hl2 _).mono ?_
          rintro e w' ⟨rfl, hw⟩
          obtain rfl := hw.symm
          go_simp
          refine hK.out _ _ hHeld (fun hHeld => ?_)
          clear hK K hw
          refine wpAnyH_take (i := 20) (v := .int .i64 (IntKind.i64.wrap (now + T2))) rfl (by kernel_rfl) (by kernel_rfl) (by kernel_rfl) (fun _ _ _ h => h) (Or.inl ⟨by rfl, ?_⟩) hHeld ?_
          · intro u hu
            go_simp
          simp only [Act.put, List.getElem_toArray, List.getElem_cons_succ, List.getElem_cons_zero, List.setIfInBounds_toArray, List.set_cons_zero, List.set_cons_succ]
          rw [hwr2]
          refine wpAnyH_take (i := 21) (v := .agg #[.string f, .string h, .int .i64 xa, .string ff, .int .i64 (now + T2)]) rfl (by kernel_rfl) (by kernel_rfl) (by kernel_rfl) (fun _ _ _ h => h) (Or.inl ⟨by rfl, ?_⟩) hHeld ?_
          · intro u hu
            go_simp
          simp only [Act.put, List.getElem_toArray, List.getElem_cons_succ, List.getElem_cons_zero, List.setIfInBounds_toArray, List.set_cons_zero, List.set_cons_succ]
          refine wpAnyH_ready (rs := [22]) (by kernel_rfl) (by simp) ?_
          refine AllReadyH.cons rfl (fun K hK => ?_) AllReadyH.nil
          go_simp
          refine hK.out _ _ ⟨⟨hHeld.1.choose, hHeld.1.choose_spec.alloc _⟩, hHeld.2.alloc _⟩ (fun hHeld => ?_)
          clear hK K
          refine wpAnyH_ready (rs := [23]) (by kernel_rfl) (by simp) ?_
          refine AllReadyH.cons rfl (fun K hK => ?_) AllReadyH.nil
          refine step_appG _ rfl (.tmp 70) (.tmp 88) 37 65 iB _ 5 64 Tryz.underlying37 hiB hzB0 hzB1 hzB2 rfl (by decide) rfl 0 _ m _ rfl hto6 (.slice (some ⟨w5.heap.size, 0, none⟩) 1 1) 1 [.string f, .string h, .int .i64 xa, .string ff, .int .i64 (now + T2)] rfl (Row.of_blk hXd rfl 1 1) rfl (by simp [Value.oneCell']) (by omega) (by unfold maxLen; omega) (Nat.zero_le _) ?_
          intro v7 w7 h1 h3 h4
          have hblk7 := (HX6.out.ct.blk.below HBD.out).grown h3 (fun e => absurd (own_tag hto6 e.symm (HX6.out.ct.blk.below HBD.out)) (by decide))
          have q6 : w7.cell? ⟨p, 5, none⟩ = some (.slice yb m cb) := hblk7.cell 5
          have q7 : w7.frozen? ⟨p, 5, none⟩ = false := hblk7.frozen 5
          have hH7 : (∃ z, Blk w7 p #[.string f, .string ff, V, .int .i64 (now + T), .bool false, z] 69) ∧ Blk w7 G #[.string xc, .string xh2, .int .i64 xa, .string xf, .int .i64 xu] 65 := ⟨⟨_, hblk7⟩, hHeld.2.grown h3 (fun e => by have := HLT.out _ e.symm; omega)⟩
          have hne7 : G ≠ p := fun e => by have := hH7.2; rw [e] at this; exact absurd (blk_tag this hblk7) (by decide)
          obtain ⟨y7, c7, rfl⟩ := row_shape h1
          have HA9 : Hid (PA w (w7.setCell ⟨p, 5, none⟩ (.slice y7 (m + 1) c7)) D ⟨p, V, .slice y7 (m + 1) c7⟩ ⟨f, ff, H, now + T, false, B ++ [⟨f, h, xa, ff, now + T2⟩]⟩) :=
            HX6.out.bind HBD.out (b := ⟨f, h, xa, ff, now + T2⟩) (v' := .slice y7 (m + 1) c7) (w2 := w7) (by show w7.ownsRow 0 _ 5 _ (B.length + 1) _; rw [← HMB.out]; exact h1) h3 (fun k hk => (h4 k hk).imp id (fun e => Nat.le_trans HBD.out.size e)) (by show B.length + 1 ≤ 256; rw [← HMB.out]; omega) HOB.out
          have hH9 : (∃ z, Blk (w7.setCell ⟨p, 5, none⟩ (.slice y7 (m + 1) c7)) p #[.string f, .string ff, V, .int .i64 (now + T), .bool false, z] 69) ∧ Blk (w7.setCell ⟨p, 5, none⟩ (.slice y7 (m + 1) c7)) G #[.string xc, .string xh2, .int .i64 xa, .string xf, .int .i64 xu] 65 := ⟨⟨_, HA9.out.ct.blk⟩, hH7.2.other hne7 _ _⟩
          clear h1 h3 h4 hblk7 hto6
          refine hK.out _ _ hH7 (fun hHeld => ?_)
          clear hK K
          simp only [Act.put, List.getElem_toArray, List.getElem_cons_succ, List.getElem_cons_zero, List.setIfInBounds_toArray, List.set_cons_zero, List.set_cons_succ]
          refine wpAnyH_take (i := 24) (v := .pointer (some ⟨p, 0, none⟩)) rfl (by kernel_rfl) (by kernel_rfl) (by kernel_rfl) (fun _ _ _ h => h) (Or.inl ⟨by rfl, ?_⟩) hHeld ?_
          · intro u hu
            go_simp
          simp only [Act.put, List.getElem_toArray, List.getElem_cons_succ, List.getElem_cons_zero, List.setIfInBounds_toArray, List.set_cons_zero, List.set_cons_succ]
          refine wpAnyH_take (i := 25) (v := .pointer (some ⟨p, 5, none⟩)) rfl (by kernel_rfl) (by kernel_rfl) (by kernel_rfl) (fun _ _ _ h => h) (Or.inl ⟨by rfl, ?_⟩) hHeld ?_
          · intro u hu
            go_simp
          simp only [Act.put, List.getElem_toArray, List.getElem_cons_succ, List.getElem_cons_zero, List.setIfInBounds_toArray, List.set_cons_zero, List.set_cons_succ]
          refine wpAnyH_ready (rs := [26]) (by kernel_rfl) (by simp) ?_
          refine AllReadyH.cons rfl (fun K hK => ?_) AllReadyH.nil
          go_simp
          refine hK.out _ _ hH9 (fun hHeld => ?_)
          clear hK K
          refine wpAnyH_done (by kernel_rfl) ?_ _
          go_wp2
          go_roundw
          case rel => exact ⟨j + 1, m + 1, _, _, _, by omega, by omega, by go_num, ⟨HFY.out, by rw [List.length_append, ← HMB.out]; rfl⟩, HA9⟩
          case measure => simp [intOf]; omega
        · skip
          go_simp
          refine (hl2 _).mono ?_
          rintro e w' ⟨rfl, hw⟩
          obtain rfl := hw.symm
          go_simp
          refine hK.out _ _ hHeld (fun hHeld => ?_)
          clear hK K hw
          refine wpAnyH_take (i := 20) (v := .int .i64 (IntKind.i64.wrap (now + T2))) rfl (by kernel_rfl) (by kernel_rfl) (by kernel_rfl) (fun _ _ _ h => h) (Or.inl ⟨by rfl, ?_⟩) hHeld ?_
          · intro u hu
            go_simp
          simp only [Act.put, List.getElem_toArray, List.getElem_cons_succ, List.getElem_cons_zero, List.setIfInBounds_toArray, List.set_cons_zero, List.set_cons_succ]
          rw [hwr2]
          refine wpAnyH_take (i := 21) (v := .agg #[.string f, .string h, .int .i64 xa, .string ff, .int .i64 (now + T2)]) rfl (by kernel_rfl) (by kernel_rfl) (by kernel_rfl) (fun _ _ _ h => h) (Or.inl ⟨by rfl, ?_⟩) hHeld ?_
          · intro u hu
            go_simp
          simp only [Act.put, List.getElem_toArray, List.getElem_cons_succ, List.getElem_cons_zero, List.setIfInBounds_toArray, List.set_cons_zero, List.set_cons_succ]
          refine wpAnyH_ready (rs := [4, 22]) (by kernel_rfl) (by simp) ?_
          refine AllReadyH.cons rfl (fun K hK => ?_) (AllReadyH.cons rfl (fun K hK => ?_) AllReadyH.nil)
          · skip
            go_simp
            refine hK.out _ _ hHeld (fun hHeld => ?_)
            clear hK K
            refine wpAnyH_ready (rs := [22]) (by kernel_rfl) (by simp) ?_
            refine AllReadyH.cons rfl (fun K hK => ?_) AllReadyH.nil
            go_simp
            refine hK.out _ _ ⟨⟨hHeld.1.choose, hHeld.1.choose_spec.alloc _⟩, hHeld.2.alloc _⟩ (fun hHeld => ?_)
            clear hK K
            refine wpAnyH_ready (rs := [23]) (by kernel_rfl) (by simp) ?_
            refine AllReadyH.cons rfl (fun K hK => ?_) AllReadyH.nil
            refine step_appG _ rfl (.tmp 70) (.tmp 88) 37 65 iB _ 5 64 Tryz.underlying37 hiB hzB0 hzB1 hzB2 rfl (by decide) rfl 0 _ m _ rfl hto6 (.slice (some ⟨w5.heap.size, 0, none⟩) 1 1) 1 [.string f, .string h, .int .i64 xa, .string ff, .int .i64 (now + T2)] rfl (Row.of_blk hXd rfl 1 1) rfl (by simp [Value.oneCell']) (by omega) (by unfold maxLen; omega) (Nat.zero_le _) ?_
            intro v7 w7 h1 h3 h4
            have hblk7 := (HX6.out.ct.blk.below HBD.out).grown h3 (fun e => absurd (own_tag hto6 e.symm (HX6.out.ct.blk.below HBD.out)) (by decide))
            have q6 : w7.cell? ⟨p, 5, none⟩ = some (.slice yb m cb) := hblk7.cell 5
            have q7 : w7.frozen? ⟨p, 5, none⟩ = false := hblk7.frozen 5
            have hH7 : (∃ z, Blk w7 p #[.string f, .string ff, V, .int .i64 (now + T), .bool false, z] 69) ∧ Blk w7 G #[.string xc, .string xh2, .int .i64 xa, .string xf, .int .i64 xu] 65 := ⟨⟨_, hblk7⟩, hHeld.2.grown h3 (fun e => by have := HLT.out _ e.symm; omega)⟩
            have hne7 : G ≠ p := fun e => by have := hH7.2; rw [e] at this; exact absurd (blk_tag this hblk7) (by decide)
            obtain ⟨y7, c7, rfl⟩ := row_shape h1
            have HA9 : Hid (PA w (w7.setCell ⟨p, 5, none⟩ (.slice y7 (m + 1) c7)) D ⟨p, V, .slice y7 (m + 1) c7⟩ ⟨f, ff, H, now + T, false, B ++ [⟨f, h, xa, ff, now + T2⟩]⟩) :=
              HX6.out.bind HBD.out (b := ⟨f, h, xa, ff, now + T2⟩) (v' := .slice y7 (m + 1) c7) (w2 := w7) (by show w7.ownsRow 0 _ 5 _ (B.length + 1) _; rw [← HMB.out]; exact h1) h3 (fun k hk => (h4 k hk).imp id (fun e => Nat.le_trans HBD.out.size e)) (by show B.length + 1 ≤ 256; rw [← HMB.out]; omega) HOB.out
            have hH9 : (∃ z, Blk (w7.setCell ⟨p, 5, none⟩ (.slice y7 (m + 1) c7)) p #[.string f, .string ff, V, .int .i64 (now + T), .bool false, z] 69) ∧ Blk (w7.setCell ⟨p, 5, none⟩ (.slice y7 (m + 1) c7)) G #[.string xc, .string xh2, .int .i64 xa, .string xf, .int .i64 xu] 65 := ⟨⟨_, HA9.out.ct.blk⟩, hH7.2.other hne7 _ _⟩
            clear h1 h3 h4 hblk7 hto6
            refine hK.out _ _ hH7 (fun hHeld => ?_)
            clear hK K
            simp only [Act.put, List.getElem_toArray, List.getElem_cons_succ, List.getElem_cons_zero, List.setIfInBounds_toArray, List.set_cons_zero, List.set_cons_succ]
            refine wpAnyH_take (i := 24) (v := .pointer (some ⟨p, 0, none⟩)) rfl (by kernel_rfl) (by kernel_rfl) (by kernel_rfl) (fun _ _ _ h => h) (Or.inl ⟨by rfl, ?_⟩) hHeld ?_
            · intro u hu
              go_simp
            simp only [Act.put, List.getElem_toArray, List.getElem_cons_succ, List.getElem_cons_zero, List.setIfInBounds_toArray, List.set_cons_zero, List.set_cons_succ]
            refine wpAnyH_take (i := 25) (v := .pointer (some ⟨p, 5, none⟩)) rfl (by kernel_rfl) (by kernel_rfl) (by kernel_rfl) (fun _ _ _ h => h) (Or.inl ⟨by rfl, ?_⟩) hHeld ?_
            · intro u hu
              go_simp
            simp only [Act.put, List.getElem_toArray, List.getElem_cons_succ, List.getElem_cons_zero, List.setIfInBounds_toArray, List.set_cons_zero, List.set_cons_succ]
            refine wpAnyH_ready (rs := [26]) (by kernel_rfl) (by simp) ?_
            refine AllReadyH.cons rfl (fun K hK => ?_) AllReadyH.nil
            go_simp
            refine hK.out _ _ hH9 (fun hHeld => ?_)
            clear hK K
            refine wpAnyH_done (by kernel_rfl) ?_ _
            go_wp2
            go_roundw
            case rel => exact ⟨j + 1, m + 1, _, _, _, by omega, by omega, by go_num, ⟨HFY.out, by rw [List.length_append, ← HMB.out]; rfl⟩, HA9⟩
            case measure => simp [intOf]; omega
          · skip
            go_simp
            refine hK.out _ _ ⟨⟨hHeld.1.choose, hHeld.1.choose_spec.alloc _⟩, hHeld.2.alloc _⟩ (fun hHeld => ?_)
            clear hK K
            refine wpAnyH_ready (rs := [4]) (by kernel_rfl) (by simp) ?_
            refine AllReadyH.cons rfl (fun K hK => ?_) AllReadyH.nil
            go_simp
            refine hK.out _ _ hHeld (fun hHeld => ?_)
            clear hK K
            refine wpAnyH_ready (rs := [23]) (by kernel_rfl) (by simp) ?_
            refine AllReadyH.cons rfl (fun K hK => ?_) AllReadyH.nil
            refine step_appG _ rfl (.tmp 70) (.tmp 88) 37 65 iB _ 5 64 Tryz.underlying37 hiB hzB0 hzB1 hzB2 rfl (by decide) rfl 0 _ m _ rfl hto6 (.slice (some ⟨w5.heap.size, 0, none⟩) 1 1) 1 [.string f, .string h, .int .i64 xa, .string ff, .int .i64 (now + T2)] rfl (Row.of_blk hXd rfl 1 1) rfl (by simp [Value.oneCell']) (by omega) (by unfold maxLen; omega) (Nat.zero_le _) ?_
            intro v7 w7 h1 h3 h4
            have hblk7 := (HX6.out.ct.blk.below HBD.out).grown h3 (fun e => absurd (own_tag hto6 e.symm (HX6.out.ct.blk.below HBD.out)) (by decide))
            have q6 : w7.cell? ⟨p, 5, none⟩ = some (.slice yb m cb) := hblk7.cell 5
            have q7 : w7.frozen? ⟨p, 5, none⟩ = false := hblk7.frozen 5
            have hH7 : (∃ z, Blk w7 p #[.string f, .string ff, V, .int .i64 (now + T), .bool false, z] 69) ∧ Blk w7 G #[.string xc, .string xh2, .int .i64 xa, .string xf, .int .i64 xu] 65 := ⟨⟨_, hblk7⟩, hHeld.2.grown h3 (fun e => by have := HLT.out _ e.symm; omega)⟩
            have hne7 : G ≠ p := fun e => by have := hH7.2; rw [e] at this; exact absurd (blk_tag this hblk7) (by decide)
            obtain ⟨y7, c7, rfl⟩ := row_shape h1
            have HA9 : Hid (PA w (w7.setCell ⟨p, 5, none⟩ (.slice y7 (m + 1) c7)) D ⟨p, V, .slice y7 (m + 1) c7⟩ ⟨f, ff, H, now + T, false, B ++ [⟨f, h, xa, ff, now + T2⟩]⟩) :=
              HX6.out.bind HBD.out (b := ⟨f, h, xa, ff, now + T2⟩) (v' := .slice y7 (m + 1) c7) (w2 := w7) (by show w7.ownsRow 0 _ 5 _ (B.length + 1) _; rw [← HMB.out]; exact h1) h3 (fun k hk => (h4 k hk).imp id (fun e => Nat.le_trans HBD.out.size e)) (by show B.length + 1 ≤ 256; rw [← HMB.out]; omega) HOB.out
            have hH9 : (∃ z, Blk (w7.setCell ⟨p, 5, none⟩ (.slice y7 (m + 1) c7)) p #[.string f, .string ff, V, .int .i64 (now + T), .bool false, z] 69) ∧ Blk (w7.setCell ⟨p, 5, none⟩ (.slice y7 (m + 1) c7)) G #[.string xc, .string xh2, .int .i64 xa, .string xf, .int .i64 xu] 65 := ⟨⟨_, HA9.out.ct.blk⟩, hH7.2.other hne7 _ _⟩
            clear h1 h3 h4 hblk7 hto6
            refine hK.out _ _ hH7 (fun hHeld => ?_)
            clear hK K
            simp only [Act.put, List.getElem_toArray, List.getElem_cons_succ, List.getElem_cons_zero, List.setIfInBounds_toArray, List.set_cons_zero, List.set_cons_succ]
            refine wpAnyH_take (i := 24) (v := .pointer (some ⟨p, 0, none⟩)) rfl (by kernel_rfl) (by kernel_rfl) (by kernel_rfl) (fun _ _ _ h => h) (Or.inl ⟨by rfl, ?_⟩) hHeld ?_
            · intro u hu
              go_simp
            simp only [Act.put, List.getElem_toArray, List.getElem_cons_succ, List.getElem_cons_zero, List.setIfInBounds_toArray, List.set_cons_zero, List.set_cons_succ]
            refine wpAnyH_take (i := 25) (v := .pointer (some ⟨p, 5, none⟩)) rfl (by kernel_rfl) (by kernel_rfl) (by kernel_rfl) (fun _ _ _ h => h) (Or.inl ⟨by rfl, ?_⟩) hHeld ?_
            · intro u hu
              go_simp
            simp only [Act.put, List.getElem_toArray, List.getElem_cons_succ, List.getElem_cons_zero, List.setIfInBounds_toArray, List.set_cons_zero, List.set_cons_succ]
            refine wpAnyH_ready (rs := [26]) (by kernel_rfl) (by simp) ?_
            refine AllReadyH.cons rfl (fun K hK => ?_) AllReadyH.nil
            go_simp
            refine hK.out _ _ hH9 (fun hHeld => ?_)
            clear hK K
            refine wpAnyH_done (by kernel_rfl) ?_ _
            go_wp2
            go_roundw
            case rel => exact ⟨j + 1, m + 1, _, _, _, by omega, by omega, by go_num, ⟨HFY.out, by rw [List.length_append, ← HMB.out]; rfl⟩, HA9⟩
            case measure => simp [intOf]; omega
    · have hjn' : decide (j < NL) = false := by simpa using hjn
      have HXE : Hid ((⟨f, ff, H, now + T, false, B⟩ : Rk) = newK ⟨cn, hs, gl, ttl⟩ fr now) := by
        unfold Hid
        rw [HNEW.out, HBB.out.1, List.take_of_length_le (by have := HNL.out; omega)]
      obtain ⟨bv, hbv⟩ : ∃ bv : Value, bv = .slice yb m cb := ⟨_, rfl⟩
      have HX1 : Hid (PX w wr D ⟨p, V, bv⟩ ⟨f, ff, H, now + T, false, B⟩ (.slice none 0 0) 0 []) := ⟨by rw [hbv]; exact HX.out, World.ownsRow_nil _ _ _ _⟩
      clear hjn hj HX HBB hbv HNEW HGO HGS HGR HOH
      have HC0 : Hid (∀ U, Below w.heap.size w U → RS U gr (.slice yv nL cv) L ∧ U.cell? ⟨gr, 0, none⟩ = some (.slice yv nL cv)) := fun U hU => ⟨HRS.out.below hU, (HRS.out.below hU).blk.cell 0⟩
      have g0 := (HC0.out wr HX1.out.pa.bel).2
      go_wp2
      clear q2 g0
      go_loopw [15, 16] (fun ov k wq => ∃ (i n2 cl : Nat) (yl : Option Addr) (K : List (Rk × RQ)), i ≤ nL ∧ n2 ≤ i ∧ ov = .slice yl n2 cl ∧ k = .int .i64 (i : Int) ∧ Hid (K = (L.take i).filter (fun e => keepK f now e.1) ∧ n2 = K.length) ∧ Hid (PX w wq D ⟨p, V, bv⟩ ⟨f, ff, H, now + T, false, B⟩ (.slice yl n2 cl) n2 K)) (fun _ k _ => nL - (intOf k).toNat)
      case atStart => exact ⟨0, 0, 0, none, [], Nat.zero_le _, Nat.le_refl _, rfl, rfl, ⟨rfl, rfl⟩, HX1⟩
      case round =>
        clear HX1
        obtain ⟨i, n2, cl, yl, K, hi, hni, rfl, rfl, HKK, HP⟩ := hrel
        rename World => wq
        obtain ⟨hrs, g0⟩ := HC0.out wq HP.out.pa.bel
        by_cases hin : i < nL
        · have hin' : (i : Int) < (nL : Int) := by omega
          have hiu : i < L.length := by have := HnL.out; omega
          have hall := hrs.all
          rw [show L.length = nL from HnL.out.symm] at hall
          obtain ⟨gv, cap, hyv, _⟩ := hall.form (by omega)
          simp only [Value.slice.injEq, true_and] at hyv
          obtain ⟨rfl, rfl⟩ := hyv
          have hrk := hrs.cuts _ (List.getElem_mem hiu)
          have g1 : wq.cell? ⟨gv, i, none⟩ = some (.pointer (some ⟨L[i].2.p, 0, none⟩)) := by have := hall.cellAt i (by omega); rw [this, pC_at hiu]
          have hstep := take_flt hiu (fun e => keepK f now e.1)
          obtain ⟨⟨⟨yn, yf, yhs, yu, yrt, ybs⟩, ⟨rp, rhv, rbv⟩⟩, hye⟩ : ∃ z, z = L[i] := ⟨_, rfl⟩
          rw [← hye] at hrk g1 hstep
          simp only at hrk g1 hstep
          have HSTEP : Hid ((L.take (i + 1)).filter (fun e => keepK f now e.1) = (L.take i).filter (fun e => keepK f now e.1) ++ if keepK f now ⟨yn, yf, yhs, yu, yrt, ybs⟩ = true then [(⟨yn, yf, yhs, yu, yrt, ybs⟩, ⟨rp, rhv, rbv⟩)] else []) := hstep
          have g0b : ∀ nb : Bel wq, nb.to.cell? ⟨gr, 0, none⟩ = some (.slice (some ⟨gv, 0, none⟩) nL cv) := fun nb => (hrs.below nb.h).blk.cell 0
          have g1b : ∀ nb : Bel wq, nb.to.cell? ⟨gv, i, none⟩ = some (.pointer (some ⟨rp, 0, none⟩)) := fun nb => by rw [nb.h.cell (World.block_lt_of_cell? _ _ g1)]; exact g1
          have g2b : ∀ nb : Bel wq, nb.to.cell? ⟨rp, 0, none⟩ = some (.string yn) := fun nb => (hrk.blk.below nb.h).cell 0
          have g3b : ∀ nb : Bel wq, nb.to.cell? ⟨p, 0, none⟩ = some (.string f) := fun nb => (HP.out.below nb.h).pa.ct.blk.cell 0
          have HNK : Hid (n2 = K.length) := HKK.out.2
          have HPE : Hid (∀ U, Below wq.heap.size wq U → U.cell? ⟨gr, 0, none⟩ = some (.slice (some ⟨gv, 0, none⟩) nL cv) ∧ U.cell? ⟨gv, i, none⟩ = some (.pointer (some ⟨rp, 0, none⟩))) := fun U hU => ⟨g0b ⟨U, hU⟩, g1b ⟨U, hU⟩⟩
          cases hlk : liveK now ⟨yn, yf, yhs, yu, yrt, ybs⟩ with
          | false =>
            have S := fun nb : Bel wq => liveR_bel (hrk.below nb.h) now false hlk
            have HNX : Hid ((L.take (i + 1)).filter (fun e => keepK f now e.1) = K) := by unfold Hid; rw [HSTEP.out, ← HKK.out.1]; unfold keepK; rw [hlk]; simp
            clear HSTEP hstep hye hall hlk hrs g1
            go_wp2
            refine wp_region_bel (by kernel_rfl) (by kernel_rfl) (fun _ => ?_)
            repeat (go_big_quiet_step ((go_at_call 50; go_must (exact bel_lays (S _)))))
            refine wpQuiet_nil ?_
            intro wn hwn
            have HP5 : Hid (PX w wn D ⟨p, V, bv⟩ ⟨f, ff, H, now + T, false, B⟩ (.slice yl n2 cl) n2 K) := HP.out.below (bel_out hwn)
            clear hwn HP S g0b g1b g2b g3b HPE g0
            go_wp2
            go_roundw
            case rel => exact ⟨i + 1, n2, cl, yl, K, by omega, by omega, rfl, by go_num, ⟨HNX.out.symm, HNK.out⟩, HP5⟩
            case measure => simp [intOf]; omega
          | true =>
            have S := fun nb : Bel wq => liveR_bel (hrk.below nb.h) now true hlk
            by_cases hnf : yn = f
            · have HNX : Hid ((L.take (i + 1)).filter (fun e => keepK f now e.1) = K) := by unfold Hid; rw [HSTEP.out, ← HKK.out.1]; unfold keepK; simp [hnf]
              have hnf2 : f = yn := hnf.symm
              clear HSTEP hstep hye hall hlk hrs g1 hnf
              subst hnf2
              have hne : (f.toList == f.toList) = true := by simp
              go_wp2
              refine wp_region_bel (by kernel_rfl) (by kernel_rfl) (fun _ => ?_)
              repeat (go_big_quiet_step ((go_at_call 50; go_must (exact bel_lays (S _)))))
              refine wpQuiet_nil ?_
              intro wn hwn
              have HP5 : Hid (PX w wn D ⟨p, V, bv⟩ ⟨f, ff, H, now + T, false, B⟩ (.slice yl n2 cl) n2 K) := HP.out.below (bel_out hwn)
              clear hwn HP S g0b g1b g2b g3b HPE g0
              go_wp2
              go_roundw
              case rel => exact ⟨i + 1, n2, cl, yl, K, by omega, by omega, rfl, by go_num, ⟨HNX.out.symm, HNK.out⟩, HP5⟩
              case measure => simp [intOf]; omega
            · have HNX : Hid ((L.take (i + 1)).filter (fun e => keepK f now e.1) = K ++ [(⟨yn, yf, yhs, yu, yrt, ybs⟩, ⟨rp, rhv, rbv⟩)]) := by unfold Hid; rw [HSTEP.out, ← HKK.out.1]; unfold keepK; rw [hlk]; simp [hnf]
              have hne : (yn.toList == f.toList) = false := by rw [str_eqd]; simpa using hnf
              clear HSTEP hstep hye hall hlk hrs g1 hnf
              go_wp2
              refine wp_region_bel (by kernel_rfl) (by kernel_rfl) (fun _ => ?_)
              repeat (go_big_quiet_step ((go_at_call 50; go_must (exact bel_lays (S _)))))
              refine wpQuiet_nil ?_
              intro wn hwn
              have HP5 : Hid (PX w wn D ⟨p, V, bv⟩ ⟨f, ff, H, now + T, false, B⟩ (.slice yl n2 cl) n2 K) := HP.out.below (bel_out hwn)
              obtain ⟨z0, z1⟩ := HPE.out wn (bel_out hwn)
              clear hwn HP S g0b g1b g2b g3b HPE g0
              go_wp2_with (at_builtin; refine wpList_appG _ rfl (.tmp 127) (.tmp 135) 70 67 iP _ 1 8 Tryz.underlying70 hiP hzP0 hzP1 hzP2 rfl (by decide) rfl w.heap.size _ n2 (pC K) rfl (HP5.out.below (lay (Below.refl _ _) (.cells #[.pointer (some ⟨rp, 0, none⟩)] 67))).own (.slice (some ⟨wn.heap.size, 0, none⟩) 1 1) 1 [.pointer (some ⟨rp, 0, none⟩)] rfl (Row.of_blk (Blk.new wn #[.pointer (some ⟨rp, 0, none⟩)] 67) rfl 1 1) rfl (by simp [Value.oneCell']) (by omega) (by unfold maxLen; omega) (by have := HP5.out.pa.bel.size; rw [World.size_alloc]; omega) ?_; intro v6 w6 h1 h3 _; obtain ⟨y6, c6, hv6⟩ := row_shape h1; subst hv6; have H6 : Hid (PX w w6 D ⟨p, V, bv⟩ ⟨f, ff, H, now + T, false, B⟩ (.slice y6 (n2 + 1) c6) (n2 + 1) (K ++ [(⟨yn, yf, yhs, yu, yrt, ybs⟩, ⟨rp, rhv, rbv⟩)])) := PX.grow (HP5.out.below (lay (Below.refl _ _) (.cells #[.pointer (some ⟨rp, 0, none⟩)] 67))) (by rw [pC_app]; exact h1) h3; clear h1 h3)
              go_roundw
              case rel => exact ⟨i + 1, n2 + 1, c6, y6, _, by omega, by omega, rfl, by go_num, ⟨HNX.out.symm, by rw [List.length_append, ← HNK.out]; rfl⟩, H6⟩
              case measure => simp [intOf]; omega
        · have hin' : decide (i < nL) = false := by simpa using hin
          have hKall : K = L.filter (fun e => keepK f now e.1) := by rw [HKK.out.1, List.take_of_length_le (by rw [← HnL.out]; omega)]
          have HKS : Hid (K.Sublist L) := by unfold Hid; rw [hKall]; exact List.filter_sublist
          have HFK : Hid (fstR K = (fstR L).filter (keepK f now)) := by unfold Hid; rw [hKall]; exact fstR_filter _ _
          have HNK : Hid (n2 = K.length) := HKK.out.2
          have HCK : Hid (∀ U, Below w.heap.size w U → ∀ e ∈ K, RkAt U e.2 e.1) := fun U hU e he => (HC0.out U hU).1.cuts e (HKS.out.subset he)
          have HPP : Hid (∀ K2 : List (Rk × RQ), fstR K2 = cutK (fstR K) → fstR (K2 ++ [(⟨f, ff, H, now + T, false, B⟩, ⟨p, V, bv⟩)]) = putK (fstR L) ⟨cn, hs, gl, ttl⟩ fr now) := fun K2 h2 => by
            rw [HPUT.out, fstR_app, h2, HFK.out, ← HXE.out]
            rfl
          have hn2 : n2 ≤ 129 := by omega
          clear hKall HKK HPUT hin hi hrs
          by_cases hfull : n2 = 129
          · have hfe : ((n2 : Int) == 129) = true := by rw [hfull]; rfl
            obtain ⟨k, hk1, hk2⟩ := HKEEP.out K HFK.out (by rw [← HNK.out]; exact hfull)
            have hkn : k < n2 := by omega
            have hkK : k < K.length := by rw [← HNK.out]; exact hkn
            have hls := fun v (hv : Row wq v K.length (pC K)) => leastR_any v K hv (HCK.out wq HP.out.pa.bel) (by rw [← HNK.out]; exact hn2)
            rw [hk1] at hls
            have hls2 := hls (.slice yl n2 cl) (by rw [← HNK.out]; exact Row.of_own HP.out.own)
            obtain ⟨K2, hK2⟩ : ∃ K2, K2 = K.take k ++ K.drop (k + 1) := ⟨_, rfl⟩
            obtain ⟨NN, hNN⟩ : ∃ NN, NN = k + (n2 - (k + 1)) := ⟨_, rfl⟩
            have HNE : Hid (k + (n2 - (k + 1)) = NN) := hNN.symm
            have HLN : Hid (NN = K2.length) := by unfold Hid; rw [hK2, hNN, List.length_append, List.length_take, List.length_drop, ← HNK.out]; omega
            have HFC : Hid (fstR K2 = cutK (fstR K)) := by
              unfold Hid cutK
              rw [if_pos (by rw [fstR_len, ← HNK.out]; exact hfull), fstR_len, hk1, show ((k : Int)).toNat = k by omega, ← fstR_erase, List.eraseIdx_eq_take_drop_succ, hK2]
            have HK2S : Hid (K2.Sublist L) := by unfold Hid; rw [hK2, ← List.eraseIdx_eq_take_drop_succ]; exact (List.eraseIdx_sublist _ _).trans HKS.out
            have hNNb : NN ≤ 128 := by omega
            have HC1 : Hid (∀ x ∈ (pC K).take (k * 1), x.oneCell' = true) := fun x hx => pC_one K x (List.mem_of_mem_take hx)
            have HC2 : Hid (∀ x ∈ (pC K).drop ((k + 1) * 1), x.oneCell' = true) := fun x hx => pC_one K x (List.mem_of_mem_drop hx)
            have HLA : Hid (((pC K).take (k * 1)).length = k * 1) := by unfold Hid; rw [List.length_take, pC_len]; omega
            have HLD : Hid (((pC K).drop ((k + 1) * 1)).length = (n2 - (k + 1)) * 1) := by unfold Hid; rw [List.length_drop, pC_len, ← HNK.out]; omega
            have HAP : Hid ((pC K).take (k * 1) ++ (pC K).drop ((k + 1) * 1) = pC K2) := by unfold Hid; rw [pC_take, pC_drop, hK2, pC_app]
            clear hls hk1 hK2 hNN hkK HFK HKEEP hfull HKS
            have tk2 : True := trivial
            have tk3 : True := trivial
            have tk4 : True := trivial
            have tk5 : True := trivial
            have tk6 : True := trivial
            go_wp2_with (first
              | (go_at_call 51; go_must (refine hls2.mono ?_); rintro e wz ⟨rfl, bz⟩; have HPz : Hid (PX w wz D ⟨p, V, bv⟩ ⟨f, ff, H, now + T, false, B⟩ (.slice yl n2 cl) n2 K) := HP.out.below bz; have HBE : Hid (Below wz.heap.size wz (wz.alloc (.cells #[] 67))) := lay (Below.refl _ _) _; have HPA : Hid (PX w (wz.alloc (.cells #[] 67)) D ⟨p, V, bv⟩ ⟨f, ff, H, now + T, false, B⟩ (.slice yl n2 cl) n2 K) := HPz.out.below HBE.out; have HOE : Hid ((wz.alloc (.cells #[] 67)).ownsRow wz.heap.size 67 1 (.slice (some ⟨wz.heap.size, 0, none⟩) 0 0) 0 []) := own_blk (B := wz.heap.size) (z := 1) (n := 0) (xs := []) (Blk.new wz #[] 67) (Nat.le_refl _) rfl rfl (Nat.zero_le _); have hszr := HPz.out.pa.bel.size; clear hls2 bz g0)
              | (have _t := tk3; refine wpList_sliceTo _ rfl (.tmp 143) (.tmp 144) 70 67 w.heap.size 1 Tryz.underlying70 (Tryz.sizeOf67 _) rfl _ n2 k (pC K) rfl rfl HPA.out.own (by omega) ?_; intro va hra; clear tk3)
              | (at_builtin; have _t := tk4; refine wpList_appG _ rfl (.tmp 142) (.tmp 145) 70 67 iP _ 1 8 Tryz.underlying70 hiP hzP0 hzP1 hzP2 rfl (by decide) rfl wz.heap.size _ 0 [] rfl HOE.out _ k ((pC K).take (k * 1)) rfl hra HLA.out HC1.out (by omega) (by unfold maxLen; omega) HBE.out.size ?_; intro v7 w7 h1 h3 _; rw [Nat.zero_add, List.nil_append] at h1; have B7 : Below wz.heap.size wz w7 := HBE.out.grown h3 HBE.out.size (fun i e => (HOE.out.lt i e).1); have HPB : Hid (PX w w7 D ⟨p, V, bv⟩ ⟨f, ff, H, now + T, false, B⟩ (.slice yl n2 cl) n2 K) := HPz.out.below B7; have H17 : Hid (w7.ownsRow wz.heap.size 67 1 v7 k ((pC K).take (k * 1))) := h1; have HB7 : Hid (Below wz.heap.size wz w7) := B7; clear h1 h3 tk4 B7 hra)
              | (have _t := tk5; refine wpList_sliceFrom _ rfl (.tmp 148) (.tmp 150) 70 67 w.heap.size 1 Tryz.underlying70 (Tryz.sizeOf67 _) rfl _ n2 (k + 1) (pC K) rfl rfl HPB.out.own (by omega) ?_; intro vb hrb; clear tk5)
              | (at_builtin; have _t := tk6; refine wpList_appG _ rfl (.tmp 147) (.tmp 151) 70 67 iP _ 1 8 Tryz.underlying70 hiP hzP0 hzP1 hzP2 rfl (by decide) rfl wz.heap.size _ k ((pC K).take (k * 1)) rfl H17.out _ (n2 - (k + 1)) ((pC K).drop ((k + 1) * 1)) rfl hrb HLD.out HC2.out (by omega) (by unfold maxLen; omega) HB7.out.size ?_; intro v8 w8 h1 h3 _; rw [HAP.out, HNE.out] at h1; have B8 : Below wz.heap.size wz w8 := HB7.out.grown h3 HB7.out.size (fun i e => (H17.out.lt i e).1); obtain ⟨y8, c8, hv8⟩ := row_shape h1; subst hv8; have HP8 : Hid (PX w w8 D ⟨p, V, bv⟩ ⟨f, ff, H, now + T, false, B⟩ (.slice y8 NN c8) NN K2) := ⟨HPz.out.pa.below B8, own_base h1 hszr⟩; have hb9 : Below w8.heap.size w8 (w8.alloc (.cells #[.pointer (some ⟨p, 0, none⟩)] 67)) := lay (Below.refl _ _) _; have HP9 : Hid (PX w (w8.alloc (.cells #[.pointer (some ⟨p, 0, none⟩)] 67)) D ⟨p, V, bv⟩ ⟨f, ff, H, now + T, false, B⟩ (.slice y8 NN c8) NN K2) := HP8.out.below hb9; clear h1 h3 tk6 B8 hrb H17 HB7 HPB hb9)
              | (at_builtin; have _t := tk2; refine wpList_appG _ rfl (.tmp 154) (.tmp 156) 70 67 iP _ 1 8 Tryz.underlying70 hiP hzP0 hzP1 hzP2 rfl (by decide) rfl w.heap.size _ NN (pC K2) rfl HP9.out.own (.slice (some ⟨w8.heap.size, 0, none⟩) 1 1) 1 [.pointer (some ⟨p, 0, none⟩)] rfl (Row.of_blk (Blk.new w8 #[.pointer (some ⟨p, 0, none⟩)] 67) rfl 1 1) rfl (by simp [Value.oneCell']) (by omega) (by unfold maxLen; omega) HP9.out.pa.bel.size ?_; intro v6 w6 h1 h3 _; obtain ⟨y6, c6, hv6⟩ := row_shape h1; subst hv6; have HP6 : Hid (PX w w6 D ⟨p, V, bv⟩ ⟨f, ff, H, now + T, false, B⟩ (.slice y6 (NN + 1) c6) (NN + 1) (K2 ++ [(⟨f, ff, H, now + T, false, B⟩, ⟨p, V, bv⟩)])) := PX.grow HP9.out (by rw [pC_app]; exact h1) h3; obtain ⟨hz, g6⟩ := HC0.out w6 HP6.out.pa.bel; have g6f := hz.blk.frozen 0; clear h1 h3 tk2 hz))
            go_ret
            obtain ⟨r1, r2, r3⟩ := rput_end HRS.out HK2S.out (by rw [← HLN.out]; omega) (by rw [List.length_append, ← HLN.out]; rfl) HP6.out
            exact ⟨rfl, _, _, r1, HPP.out K2 HFC.out, r2, r3⟩
          · have hfe : ((n2 : Int) == 129) = false := by rw [beq_eq_false_iff_ne]; omega
            have HFC : Hid (fstR K = cutK (fstR K)) := by
              unfold Hid cutK
              rw [if_neg (by rw [fstR_len, ← HNK.out]; exact hfull)]
            have hb9 : Below wq.heap.size wq (wq.alloc (.cells #[.pointer (some ⟨p, 0, none⟩)] 67)) := lay (Below.refl _ _) _
            have HP9 : Hid (PX w (wq.alloc (.cells #[.pointer (some ⟨p, 0, none⟩)] 67)) D ⟨p, V, bv⟩ ⟨f, ff, H, now + T, false, B⟩ (.slice yl n2 cl) n2 K) := HP.out.below hb9
            clear hfull hb9 HKEEP HFK
            go_wp2_with (at_builtin; refine wpList_appG _ rfl (.tmp 154) (.tmp 156) 70 67 iP _ 1 8 Tryz.underlying70 hiP hzP0 hzP1 hzP2 rfl (by decide) rfl w.heap.size _ n2 (pC K) rfl HP9.out.own (.slice (some ⟨wq.heap.size, 0, none⟩) 1 1) 1 [.pointer (some ⟨p, 0, none⟩)] rfl (Row.of_blk (Blk.new wq #[.pointer (some ⟨p, 0, none⟩)] 67) rfl 1 1) rfl (by simp [Value.oneCell']) (by omega) (by unfold maxLen; omega) HP9.out.pa.bel.size ?_; intro v6 w6 h1 h3 _; obtain ⟨y6, c6, hv6⟩ := row_shape h1; subst hv6; have HP6 : Hid (PX w w6 D ⟨p, V, bv⟩ ⟨f, ff, H, now + T, false, B⟩ (.slice y6 (n2 + 1) c6) (n2 + 1) (K ++ [(⟨f, ff, H, now + T, false, B⟩, ⟨p, V, bv⟩)])) := PX.grow HP9.out (by rw [pC_app]; exact h1) h3; obtain ⟨hz, g6⟩ := HC0.out w6 HP6.out.pa.bel; have g6f := hz.blk.frozen 0; clear h1 h3 hz)
            go_ret
            obtain ⟨r1, r2, r3⟩ := rput_end HRS.out HKS.out (by rw [← HNK.out]; have := beq_eq_false_iff_ne.1 hfe; omega) (by rw [List.length_append, ← HNK.out]; rfl) HP6.out
            exact ⟨rfl, _, _, r1, HPP.out K HFC.out, r2, r3⟩

end Cu
end Go.Proofs.YtnjgdfmldjgloaaGreat
