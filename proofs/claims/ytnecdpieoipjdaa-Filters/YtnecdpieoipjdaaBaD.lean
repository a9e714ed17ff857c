/- What Filter of package bail gives, for every message and every cut. -/
import Derived.Test.YtnecdpieoipjdaaBaB
import Derived.Test.YtnecdpieoipjdaaBaC
namespace Go.Proofs.Ytnecdpieoipjdaa
open Go.RowKit
open Pl

set_option maxRecDepth 20000 in
set_option maxHeartbeats 2000000 in
theorem filter_yes (c : ByteArray) (id : Int) (qr : Bool) (op : Int) (aa tc rd ra : Bool) (z rc : Int) (qs : List Qn) (an ns ar : List Rc) (v0 v1 v2 v3 : Value) (w : World) (h0 : Row w v0 qs.length (qC qs)) (h1 : Row w v1 an.length (rC an)) (h2 : Row w v2 ns.length (rC ns)) (h3 : Row w v3 ar.length (rC ar)) (hF : Fits ⟨⟨id, qr, op, aa, tc, rd, ra, z, rc⟩, qs, an, ns, ar⟩) (hc : c.size ≤ maxLen) (hn : isName c.data.toList = true) :
    Calls Try.prog 8 #[.agg #[.int .i64 id, .bool qr, .int .i64 op, .bool aa, .bool tc, .bool rd, .bool ra, .int .i64 z, .int .i64 rc, v0, v1, v2, v3], .string c] w fun e w' => ∃ (y0 y1 y2 y3 : Option Addr) (k0 k1 k2 k3 : Nat), e = .returned (.tuple #[.agg #[.int .i64 id, .bool qr, .int .i64 op, .bool aa, .bool tc, .bool rd, .bool ra, .int .i64 z, .int .i64 rc, .slice y0 qs.length k0, .slice y1 (kpL c.data.toList an).length k1, .slice y2 (kpL c.data.toList ns).length k2, .slice y3 (kpL c.data.toList ar).length k3], .int .i64 0]) ∧
      Own w.heap.size w' (.slice y0 qs.length k0) (.slice y1 (kpL c.data.toList an).length k1) (.slice y2 (kpL c.data.toList ns).length k2) (.slice y3 (kpL c.data.toList ar).length k3) (kpM c.data.toList ⟨⟨id, qr, op, aa, tc, rd, ra, z, rc⟩, qs, an, ns, ar⟩) ∧ Below w.heap.size w w' := by
  obtain ⟨x0, c0, rfl⟩ := row_slice h0
  obtain ⟨x1, c1, rfl⟩ := row_slice h1
  obtain ⟨x2, c2, rfl⟩ := row_slice h2
  obtain ⟨x3, c3, rfl⟩ := row_slice h3
  have hb : Below w.heap.size w w := Below.refl _ _
  have H0 : Hid (Row w (.slice x0 qs.length c0) qs.length (qC qs)) := h0
  have H1 : Hid (Row w (.slice x1 an.length c1) an.length (rC an)) := h1
  have H2 : Hid (Row w (.slice x2 ns.length c2) ns.length (rC ns)) := h2
  have H3 : Hid (Row w (.slice x3 ar.length c3) ar.length (rC ar)) := h3
  have HF : Hid (Fits ⟨⟨id, qr, op, aa, tc, rd, ra, z, rc⟩, qs, an, ns, ar⟩) := hF
  have z0 := hF.q
  have z1 := hF.an
  have z2 := hF.ns
  have z3 := hF.ar
  simp only at z0 z1 z2 z3
  clear h0 h1 h2 h3 hF
  have KM := (Blk.new w (msgC ⟨id, qr, op, aa, tc, rd, ra, z, rc⟩ (.slice x0 qs.length c0) (.slice x1 an.length c1) (.slice x2 ns.length c2) (.slice x3 ar.length c3)) 27).alloc (.cells (msgC hdZ (.slice none 0 0) (.slice none 0 0) (.slice none 0 0) (.slice none 0 0)) 27)
  have KR := Blk.new (w.alloc (.cells (msgC ⟨id, qr, op, aa, tc, rd, ra, z, rc⟩ (.slice x0 qs.length c0) (.slice x1 an.length c1) (.slice x2 ns.length c2) (.slice x3 ar.length c3)) 27)) (msgC hdZ (.slice none 0 0) (.slice none 0 0) (.slice none 0 0) (.slice none 0 0)) 27
  have HBW : Hid (Below w.heap.size w ((w.alloc (.cells (msgC ⟨id, qr, op, aa, tc, rd, ra, z, rc⟩ (.slice x0 qs.length c0) (.slice x1 an.length c1) (.slice x2 ns.length c2) (.slice x3 ar.length c3)) 27)).alloc (.cells (msgC hdZ (.slice none 0 0) (.slice none 0 0) (.slice none 0 0) (.slice none 0 0)) 27))) := lay (lay hb _) _
  rw [World.size_alloc] at KR
  unfold msgC hdZ at KM KR HBW
  simp only at KM KR HBW
  go_enter Try.func8, Try.ntmps8
  go_wp2_with (go_at_call 18; go_must (refine (may_as _ true _ hc hn).mono ?_); rintro e w' ⟨rfl, hw⟩; obtain rfl := hw.symm)
  revert KM KR HBW
  generalize (w.alloc _).alloc _ = W0
  intro KM KR HBW
  replace KM := KM.below (Below.refl _ _).drew
  replace KR := KR.below (Below.refl _ _).drew
  replace HBW : Hid (Below w.heap.size w W0.drew) := HBW.out.drew
  have hgr := KR.lt
  have hlo : w.heap.size < w.heap.size + 1 := by omega
  obtain ⟨gr, hgre⟩ : ∃ gr, w.heap.size + 1 = gr := ⟨_, rfl⟩
  rw [hgre] at KR hgr hlo ⊢
  have hwg : w.heap.size ≤ gr := by omega
  clear hgre
  obtain ⟨gm, hgme⟩ : ∃ gm, w.heap.size = gm := ⟨_, rfl⟩
  have hne : gm ≠ gr := by omega
  rw [hgme] at KM
  simp only [hgme]
  refine wp_region_held_drew (S := fun u => Blk u gm (msgC ⟨id, qr, op, aa, tc, rd, ra, z, rc⟩ (.slice x0 qs.length c0) (.slice x1 an.length c1) (.slice x2 ns.length c2) (.slice x3 ar.length c3)) 27) (by kernel_rfl) KM (fun hHeld => ?_)
  refine wpAnyH_take (i := 0) (v := .pointer (some ⟨gm, 0, none⟩)) rfl (by kernel_rfl) (by kernel_rfl) (by kernel_rfl) (fun _ _ _ h => h) (Or.inl ⟨by rfl, ?_⟩) hHeld ?_
  · intro u hu
    obtain ⟨e0, e1, e2, e3, e4, e5, e6, e7, e8, e9, e10, e11, e12⟩ := blk13 (h := ⟨id, qr, op, aa, tc, rd, ra, z, rc⟩) hu
    simp only at e0 e1 e2 e3 e4 e5 e6 e7 e8
    go_simp
  simp only [Act.put, List.getElem_toArray, List.getElem_cons_zero, List.setIfInBounds_toArray, List.set_cons_zero, List.set_cons_succ]
  refine wpAnyH_take (i := 1) (v := .agg #[.int .i64 id, .bool qr, .int .i64 op, .bool aa, .bool tc, .bool rd, .bool ra, .int .i64 z, .int .i64 rc]) rfl (by kernel_rfl) (by kernel_rfl) (by kernel_rfl) (fun _ _ _ h => h) (Or.inl ⟨by rfl, ?_⟩) hHeld ?_
  · intro u hu
    obtain ⟨e0, e1, e2, e3, e4, e5, e6, e7, e8, e9, e10, e11, e12⟩ := blk13 (h := ⟨id, qr, op, aa, tc, rd, ra, z, rc⟩) hu
    simp only at e0 e1 e2 e3 e4 e5 e6 e7 e8
    go_simp
  simp only [Act.put, List.getElem_toArray, List.getElem_cons_succ, List.getElem_cons_zero, List.setIfInBounds_toArray, List.set_cons_zero, List.set_cons_succ]
  refine wpAnyH_take (i := 2) (v := .pointer (some ⟨gm, 9, none⟩)) rfl (by kernel_rfl) (by kernel_rfl) (by kernel_rfl) (fun _ _ _ h => h) (Or.inl ⟨by rfl, ?_⟩) hHeld ?_
  · intro u hu
    obtain ⟨e0, e1, e2, e3, e4, e5, e6, e7, e8, e9, e10, e11, e12⟩ := blk13 (h := ⟨id, qr, op, aa, tc, rd, ra, z, rc⟩) hu
    simp only at e0 e1 e2 e3 e4 e5 e6 e7 e8
    go_simp
  simp only [Act.put, List.getElem_toArray, List.getElem_cons_succ, List.getElem_cons_zero, List.setIfInBounds_toArray, List.set_cons_zero, List.set_cons_succ]
  refine wpAnyH_take (i := 3) (v := .slice x0 qs.length c0) rfl (by kernel_rfl) (by kernel_rfl) (by kernel_rfl) (fun _ _ _ h => h) (Or.inl ⟨by rfl, ?_⟩) hHeld ?_
  · intro u hu
    obtain ⟨e0, e1, e2, e3, e4, e5, e6, e7, e8, e9, e10, e11, e12⟩ := blk13 (h := ⟨id, qr, op, aa, tc, rd, ra, z, rc⟩) hu
    simp only at e0 e1 e2 e3 e4 e5 e6 e7 e8
    go_simp
  simp only [Act.put, List.getElem_toArray, List.getElem_cons_succ, List.getElem_cons_zero, List.setIfInBounds_toArray, List.set_cons_zero, List.set_cons_succ]
  refine wpAnyH_take (i := 5) (v := .string c) rfl (by kernel_rfl) (by kernel_rfl) (by kernel_rfl) (fun _ _ _ h => h) (Or.inl ⟨by rfl, ?_⟩) hHeld ?_
  · intro u hu
    obtain ⟨e0, e1, e2, e3, e4, e5, e6, e7, e8, e9, e10, e11, e12⟩ := blk13 (h := ⟨id, qr, op, aa, tc, rd, ra, z, rc⟩) hu
    simp only at e0 e1 e2 e3 e4 e5 e6 e7 e8
    go_simp
  simp only [Act.put, List.getElem_toArray, List.getElem_cons_succ, List.getElem_cons_zero, List.setIfInBounds_toArray, List.set_cons_zero, List.set_cons_succ]
  refine wpAnyH_take (i := 6) (v := .pointer (some ⟨gm, 10, none⟩)) rfl (by kernel_rfl) (by kernel_rfl) (by kernel_rfl) (fun _ _ _ h => h) (Or.inl ⟨by rfl, ?_⟩) hHeld ?_
  · intro u hu
    obtain ⟨e0, e1, e2, e3, e4, e5, e6, e7, e8, e9, e10, e11, e12⟩ := blk13 (h := ⟨id, qr, op, aa, tc, rd, ra, z, rc⟩) hu
    simp only at e0 e1 e2 e3 e4 e5 e6 e7 e8
    go_simp
  simp only [Act.put, List.getElem_toArray, List.getElem_cons_succ, List.getElem_cons_zero, List.setIfInBounds_toArray, List.set_cons_zero, List.set_cons_succ]
  refine wpAnyH_take (i := 7) (v := .slice x1 an.length c1) rfl (by kernel_rfl) (by kernel_rfl) (by kernel_rfl) (fun _ _ _ h => h) (Or.inl ⟨by rfl, ?_⟩) hHeld ?_
  · intro u hu
    obtain ⟨e0, e1, e2, e3, e4, e5, e6, e7, e8, e9, e10, e11, e12⟩ := blk13 (h := ⟨id, qr, op, aa, tc, rd, ra, z, rc⟩) hu
    simp only at e0 e1 e2 e3 e4 e5 e6 e7 e8
    go_simp
  simp only [Act.put, List.getElem_toArray, List.getElem_cons_succ, List.getElem_cons_zero, List.setIfInBounds_toArray, List.set_cons_zero, List.set_cons_succ]
  refine wpAnyH_take (i := 9) (v := .string c) rfl (by kernel_rfl) (by kernel_rfl) (by kernel_rfl) (fun _ _ _ h => h) (Or.inl ⟨by rfl, ?_⟩) hHeld ?_
  · intro u hu
    obtain ⟨e0, e1, e2, e3, e4, e5, e6, e7, e8, e9, e10, e11, e12⟩ := blk13 (h := ⟨id, qr, op, aa, tc, rd, ra, z, rc⟩) hu
    simp only at e0 e1 e2 e3 e4 e5 e6 e7 e8
    go_simp
  simp only [Act.put, List.getElem_toArray, List.getElem_cons_succ, List.getElem_cons_zero, List.setIfInBounds_toArray, List.set_cons_zero, List.set_cons_succ]
  refine wpAnyH_take (i := 10) (v := .pointer (some ⟨gm, 11, none⟩)) rfl (by kernel_rfl) (by kernel_rfl) (by kernel_rfl) (fun _ _ _ h => h) (Or.inl ⟨by rfl, ?_⟩) hHeld ?_
  · intro u hu
    obtain ⟨e0, e1, e2, e3, e4, e5, e6, e7, e8, e9, e10, e11, e12⟩ := blk13 (h := ⟨id, qr, op, aa, tc, rd, ra, z, rc⟩) hu
    simp only at e0 e1 e2 e3 e4 e5 e6 e7 e8
    go_simp
  simp only [Act.put, List.getElem_toArray, List.getElem_cons_succ, List.getElem_cons_zero, List.setIfInBounds_toArray, List.set_cons_zero, List.set_cons_succ]
  refine wpAnyH_take (i := 11) (v := .slice x2 ns.length c2) rfl (by kernel_rfl) (by kernel_rfl) (by kernel_rfl) (fun _ _ _ h => h) (Or.inl ⟨by rfl, ?_⟩) hHeld ?_
  · intro u hu
    obtain ⟨e0, e1, e2, e3, e4, e5, e6, e7, e8, e9, e10, e11, e12⟩ := blk13 (h := ⟨id, qr, op, aa, tc, rd, ra, z, rc⟩) hu
    simp only at e0 e1 e2 e3 e4 e5 e6 e7 e8
    go_simp
  simp only [Act.put, List.getElem_toArray, List.getElem_cons_succ, List.getElem_cons_zero, List.setIfInBounds_toArray, List.set_cons_zero, List.set_cons_succ]
  refine wpAnyH_take (i := 13) (v := .string c) rfl (by kernel_rfl) (by kernel_rfl) (by kernel_rfl) (fun _ _ _ h => h) (Or.inl ⟨by rfl, ?_⟩) hHeld ?_
  · intro u hu
    obtain ⟨e0, e1, e2, e3, e4, e5, e6, e7, e8, e9, e10, e11, e12⟩ := blk13 (h := ⟨id, qr, op, aa, tc, rd, ra, z, rc⟩) hu
    simp only at e0 e1 e2 e3 e4 e5 e6 e7 e8
    go_simp
  simp only [Act.put, List.getElem_toArray, List.getElem_cons_succ, List.getElem_cons_zero, List.setIfInBounds_toArray, List.set_cons_zero, List.set_cons_succ]
  refine wpAnyH_take (i := 14) (v := .pointer (some ⟨gm, 12, none⟩)) rfl (by kernel_rfl) (by kernel_rfl) (by kernel_rfl) (fun _ _ _ h => h) (Or.inl ⟨by rfl, ?_⟩) hHeld ?_
  · intro u hu
    obtain ⟨e0, e1, e2, e3, e4, e5, e6, e7, e8, e9, e10, e11, e12⟩ := blk13 (h := ⟨id, qr, op, aa, tc, rd, ra, z, rc⟩) hu
    simp only at e0 e1 e2 e3 e4 e5 e6 e7 e8
    go_simp
  simp only [Act.put, List.getElem_toArray, List.getElem_cons_succ, List.getElem_cons_zero, List.setIfInBounds_toArray, List.set_cons_zero, List.set_cons_succ]
  refine wpAnyH_take (i := 15) (v := .slice x3 ar.length c3) rfl (by kernel_rfl) (by kernel_rfl) (by kernel_rfl) (fun _ _ _ h => h) (Or.inl ⟨by rfl, ?_⟩) hHeld ?_
  · intro u hu
    obtain ⟨e0, e1, e2, e3, e4, e5, e6, e7, e8, e9, e10, e11, e12⟩ := blk13 (h := ⟨id, qr, op, aa, tc, rd, ra, z, rc⟩) hu
    simp only at e0 e1 e2 e3 e4 e5 e6 e7 e8
    go_simp
  simp only [Act.put, List.getElem_toArray, List.getElem_cons_succ, List.getElem_cons_zero, List.setIfInBounds_toArray, List.set_cons_zero, List.set_cons_succ]
  generalize W0.drew = W at KM KR HBW hgr hHeld ⊢
  have HM0 : Hid (Blk W gm (msgC ⟨id, qr, op, aa, tc, rd, ra, z, rc⟩ (.slice x0 qs.length c0) (.slice x1 an.length c1) (.slice x2 ns.length c2) (.slice x3 ar.length c3)) 27) := KM
  have HR0 : Hid (Blk W gr (msgC hdZ (.slice none 0 0) (.slice none 0 0) (.slice none 0 0) (.slice none 0 0)) 27) := KR
  have HB0 : Hid (Below w.heap.size w W) := HBW.out
  have HG : Hid (gr < W.heap.size) := hgr
  clear KM KR hHeld hb HBW hgr
  refine wpAnyH_ready (rs := [4]) (by kernel_rfl) (by simp) ?_
  refine AllReadyH.cons rfl (fun K hK => ?_) AllReadyH.nil
  go_simp
  refine (copyOf_any _ qs _ (H0.out.below HB0.out) z0 HF.out.sq).mono ?_
  rintro e w1 ⟨y0, k0, rfl, own0, b1⟩
  have HM1 : Hid (Blk w1 gm (msgC ⟨id, qr, op, aa, tc, rd, ra, z, rc⟩ (.slice x0 qs.length c0) (.slice x1 an.length c1) (.slice x2 ns.length c2) (.slice x3 ar.length c3)) 27) := HM0.out.below b1
  have HR1 : Hid (Blk w1 gr (msgC hdZ (.slice none 0 0) (.slice none 0 0) (.slice none 0 0) (.slice none 0 0)) 27) := HR0.out.below b1
  have HB1 : Hid (Below w.heap.size w w1) := next HB0.out b1
  have HW1 : Hid (W.heap.size ≤ w1.heap.size) := b1.size
  have O0 : Hid (w1.ownsRow W.heap.size 58 3 (.slice y0 qs.length k0) qs.length (qC qs)) := own0
  refine hK.out _ _ HM1.out (fun hHeld => ?_)
  clear hK K b1 own0 HM0 HR0 HB0 hHeld
  refine wpAnyH_ready (rs := [8]) (by kernel_rfl) (by simp) ?_
  refine AllReadyH.cons rfl (fun K hK => ?_) AllReadyH.nil
  go_simp
  refine (within_any c _ an _ (H1.out.below HB1.out) hc z1 HF.out.san).mono ?_
  rintro e w2 ⟨y1, k1, rfl, own1, b2⟩
  have HM2 : Hid (Blk w2 gm (msgC ⟨id, qr, op, aa, tc, rd, ra, z, rc⟩ (.slice x0 qs.length c0) (.slice x1 an.length c1) (.slice x2 ns.length c2) (.slice x3 ar.length c3)) 27) := HM1.out.below b2
  have HR2 : Hid (Blk w2 gr (msgC hdZ (.slice none 0 0) (.slice none 0 0) (.slice none 0 0) (.slice none 0 0)) 27) := HR1.out.below b2
  have HB2 : Hid (Below w.heap.size w w2) := next HB1.out b2
  replace O0 : Hid (w2.ownsRow W.heap.size 58 3 (.slice y0 qs.length k0) qs.length (qC qs)) := own_past O0.out b2
  have HW2 : Hid (w1.heap.size ≤ w2.heap.size) := b2.size
  have O1 : Hid (w2.ownsRow w1.heap.size 42 5 (.slice y1 (kpL c.data.toList an).length k1) (kpL c.data.toList an).length (rC (kpL c.data.toList an))) := own1
  have L1 : Hid (∀ k, (Value.slice y1 (kpL c.data.toList an).length k1).ownBlock = some k → w1.heap.size ≤ k ∧ k < w2.heap.size) := fun k hk => own1.lt k hk
  refine hK.out _ _ HM2.out (fun hHeld => ?_)
  clear hK K b2 own1 HM1 HR1 HB1 hHeld
  refine wpAnyH_ready (rs := [12]) (by kernel_rfl) (by simp) ?_
  refine AllReadyH.cons rfl (fun K hK => ?_) AllReadyH.nil
  go_simp
  refine (within_any c _ ns _ (H2.out.below HB2.out) hc z2 HF.out.sns).mono ?_
  rintro e w3 ⟨y2, k2, rfl, own2, b3⟩
  have HM3 : Hid (Blk w3 gm (msgC ⟨id, qr, op, aa, tc, rd, ra, z, rc⟩ (.slice x0 qs.length c0) (.slice x1 an.length c1) (.slice x2 ns.length c2) (.slice x3 ar.length c3)) 27) := HM2.out.below b3
  have HR3 : Hid (Blk w3 gr (msgC hdZ (.slice none 0 0) (.slice none 0 0) (.slice none 0 0) (.slice none 0 0)) 27) := HR2.out.below b3
  have HB3 : Hid (Below w.heap.size w w3) := next HB2.out b3
  replace O0 : Hid (w3.ownsRow W.heap.size 58 3 (.slice y0 qs.length k0) qs.length (qC qs)) := own_past O0.out b3
  replace O1 : Hid (w3.ownsRow w1.heap.size 42 5 (.slice y1 (kpL c.data.toList an).length k1) (kpL c.data.toList an).length (rC (kpL c.data.toList an))) := own_past O1.out b3
  have HW3 : Hid (w2.heap.size ≤ w3.heap.size) := b3.size
  have O2 : Hid (w3.ownsRow w2.heap.size 42 5 (.slice y2 (kpL c.data.toList ns).length k2) (kpL c.data.toList ns).length (rC (kpL c.data.toList ns))) := own2
  have L2 : Hid (∀ k, (Value.slice y2 (kpL c.data.toList ns).length k2).ownBlock = some k → w2.heap.size ≤ k ∧ k < w3.heap.size) := fun k hk => own2.lt k hk
  refine hK.out _ _ HM3.out (fun hHeld => ?_)
  clear hK K b3 own2 HM2 HR2 HB2 hHeld
  refine wpAnyH_ready (rs := [16]) (by kernel_rfl) (by simp) ?_
  refine AllReadyH.cons rfl (fun K hK => ?_) AllReadyH.nil
  go_simp
  refine (within_any c _ ar _ (H3.out.below HB3.out) hc z3 HF.out.sar).mono ?_
  rintro e w4 ⟨y3, k3, rfl, own3, b4⟩
  have HM4 : Hid (Blk w4 gm (msgC ⟨id, qr, op, aa, tc, rd, ra, z, rc⟩ (.slice x0 qs.length c0) (.slice x1 an.length c1) (.slice x2 ns.length c2) (.slice x3 ar.length c3)) 27) := HM3.out.below b4
  have HR4 : Hid (Blk w4 gr (msgC hdZ (.slice none 0 0) (.slice none 0 0) (.slice none 0 0) (.slice none 0 0)) 27) := HR3.out.below b4
  have HB4 : Hid (Below w.heap.size w w4) := next HB3.out b4
  replace O0 : Hid (w4.ownsRow W.heap.size 58 3 (.slice y0 qs.length k0) qs.length (qC qs)) := own_past O0.out b4
  replace O1 : Hid (w4.ownsRow w1.heap.size 42 5 (.slice y1 (kpL c.data.toList an).length k1) (kpL c.data.toList an).length (rC (kpL c.data.toList an))) := own_past O1.out b4
  replace O2 : Hid (w4.ownsRow w2.heap.size 42 5 (.slice y2 (kpL c.data.toList ns).length k2) (kpL c.data.toList ns).length (rC (kpL c.data.toList ns))) := own_past O2.out b4
  have HW4 : Hid (w3.heap.size ≤ w4.heap.size) := b4.size
  have O3 : Hid (w4.ownsRow w3.heap.size 42 5 (.slice y3 (kpL c.data.toList ar).length k3) (kpL c.data.toList ar).length (rC (kpL c.data.toList ar))) := own3
  have L3 : Hid (∀ k, (Value.slice y3 (kpL c.data.toList ar).length k3).ownBlock = some k → w3.heap.size ≤ k ∧ k < w4.heap.size) := fun k hk => own3.lt k hk
  refine hK.out _ _ HM4.out (fun hHeld => ?_)
  clear hK K b4 own3 HM3 HR3 HB3
  refine wpAnyH_take (i := 17) (v := .agg #[.int .i64 id, .bool qr, .int .i64 op, .bool aa, .bool tc, .bool rd, .bool ra, .int .i64 z, .int .i64 rc, .slice y0 qs.length k0, .slice y1 (kpL c.data.toList an).length k1, .slice y2 (kpL c.data.toList ns).length k2, .slice y3 (kpL c.data.toList ar).length k3]) rfl (by kernel_rfl) (by kernel_rfl) (by kernel_rfl) (fun _ _ _ h => h) (Or.inl ⟨by rfl, ?_⟩) hHeld ?_
  · intro u hu
    go_simp
  simp only [Act.put, List.getElem_toArray, List.getElem_cons_succ, List.getElem_cons_zero, List.setIfInBounds_toArray, List.set_cons_zero, List.set_cons_succ]
  clear hHeld
  refine wpAnyH_ready (rs := [18]) (by kernel_rfl) (by simp) ?_
  refine AllReadyH.cons rfl (fun K hK => ?_) AllReadyH.nil
  obtain ⟨g0, g1, g2, g3, g4, g5, g6, g7, g8, g9, g10, g11, g12⟩ := open13 HR4.out
  obtain ⟨o0, o1, o2, o3, o4, o5, o6, o7, o8, o9, o10, o11, o12⟩ := blk13 (h := hdZ) HR4.out
  unfold hdZ at o0 o1 o2 o3 o4 o5 o6 o7 o8
  simp only at o0 o1 o2 o3 o4 o5 o6 o7 o8
  have HQ : Hid (Blk (set13 w4 gr ⟨id, qr, op, aa, tc, rd, ra, z, rc⟩ (.slice y0 qs.length k0) (.slice y1 (kpL c.data.toList an).length k1) (.slice y2 (kpL c.data.toList ns).length k2) (.slice y3 (kpL c.data.toList ar).length k3)) gr (msgC ⟨id, qr, op, aa, tc, rd, ra, z, rc⟩ (.slice y0 qs.length k0) (.slice y1 (kpL c.data.toList an).length k1) (.slice y2 (kpL c.data.toList ns).length k2) (.slice y3 (kpL c.data.toList ar).length k3)) 27) := set13_blk HR4.out
  have HT : Hid (Turn (fun k => k = gr) w4 (set13 w4 gr ⟨id, qr, op, aa, tc, rd, ra, z, rc⟩ (.slice y0 qs.length k0) (.slice y1 (kpL c.data.toList an).length k1) (.slice y2 (kpL c.data.toList ns).length k2) (.slice y3 (kpL c.data.toList ar).length k3))) := set13_turn _ _ _ _ _ _ _
  have HM5 : Hid (Blk (set13 w4 gr ⟨id, qr, op, aa, tc, rd, ra, z, rc⟩ (.slice y0 qs.length k0) (.slice y1 (kpL c.data.toList an).length k1) (.slice y2 (kpL c.data.toList ns).length k2) (.slice y3 (kpL c.data.toList ar).length k3)) gm (msgC ⟨id, qr, op, aa, tc, rd, ra, z, rc⟩ (.slice x0 qs.length c0) (.slice x1 an.length c1) (.slice x2 ns.length c2) (.slice x3 ar.length c3)) 27) := HT.out.blk HM4.out hne
  have HB5 : Hid (Below w.heap.size w (set13 w4 gr ⟨id, qr, op, aa, tc, rd, ra, z, rc⟩ (.slice y0 qs.length k0) (.slice y1 (kpL c.data.toList an).length k1) (.slice y2 (kpL c.data.toList ns).length k2) (.slice y3 (kpL c.data.toList ar).length k3))) := Turn.below HB4.out HT.out HB4.out.size (fun i e => by omega)
  go_simp
  refine hK.out _ (set13 w4 gr ⟨id, qr, op, aa, tc, rd, ra, z, rc⟩ (.slice y0 qs.length k0) (.slice y1 (kpL c.data.toList an).length k1) (.slice y2 (kpL c.data.toList ns).length k2) (.slice y3 (kpL c.data.toList ar).length k3)) HM5.out (fun hHeld => ?_)
  clear hK K g0 g1 g2 g3 g4 g5 g6 g7 g8 g9 g10 g11 g12 o0 o1 o2 o3 o4 o5 o6 o7 o8 o9 o10 o11 o12
  refine wpAnyH_take (i := 19) (v := .int .i64 0) rfl (by kernel_rfl) (by kernel_rfl) (by kernel_rfl) (fun _ _ _ h => h) (Or.inl ⟨by rfl, ?_⟩) hHeld ?_
  · intro u hu
    go_simp
  simp only [Act.put, List.getElem_toArray, List.getElem_cons_succ, List.getElem_cons_zero, List.setIfInBounds_toArray, List.set_cons_zero, List.set_cons_succ]
  refine wpAnyH_done (by kernel_rfl) ?_ _
  have HGW : Hid (w.heap.size ≤ W.heap.size) := by have := HG.out; unfold Hid; omega
  have HE : Hid (Own w.heap.size (set13 w4 gr ⟨id, qr, op, aa, tc, rd, ra, z, rc⟩ (.slice y0 qs.length k0) (.slice y1 (kpL c.data.toList an).length k1) (.slice y2 (kpL c.data.toList ns).length k2) (.slice y3 (kpL c.data.toList ar).length k3)) (.slice y0 qs.length k0) (.slice y1 (kpL c.data.toList an).length k1) (.slice y2 (kpL c.data.toList ns).length k2) (.slice y3 (kpL c.data.toList ar).length k3) (kpM c.data.toList ⟨⟨id, qr, op, aa, tc, rd, ra, z, rc⟩, qs, an, ns, ar⟩)) :=
    ⟨own_base (HT.out.row O0.out (fun k hk e => by have := (O0.out.lt k hk).1; have := HG.out; omega)) HGW.out, own_base (HT.out.row O1.out (fun k hk e => by have := (L1.out k hk).1; have := HW1.out; have := HG.out; omega)) (Nat.le_trans HGW.out HW1.out), own_base (HT.out.row O2.out (fun k hk e => by have := (L2.out k hk).1; have := HW1.out; have := HW2.out; have := HG.out; omega)) (Nat.le_trans HGW.out (Nat.le_trans HW1.out HW2.out)), own_base (HT.out.row O3.out (fun k hk e => by have := (L3.out k hk).1; have := HW1.out; have := HW2.out; have := HW3.out; have := HG.out; omega)) (Nat.le_trans HGW.out (Nat.le_trans HW1.out (Nat.le_trans HW2.out HW3.out))), fun k hk e => by have := (L1.out k hk).2; have := (L2.out k e).1; omega, fun k hk e => by have := (L1.out k hk).2; have := (L3.out k e).1; have := HW3.out; omega, fun k hk e => by have := (L2.out k hk).2; have := (L3.out k e).1; omega⟩
  revert HQ HB5 HE
  clear HM5 HT hHeld
  generalize set13 w4 gr ⟨id, qr, op, aa, tc, rd, ra, z, rc⟩ (.slice y0 qs.length k0) (.slice y1 (kpL c.data.toList an).length k1) (.slice y2 (kpL c.data.toList ns).length k2) (.slice y3 (kpL c.data.toList ar).length k3) = WF
  intro HQ HB5 HE
  obtain ⟨q0, q1, q2, q3, q4, q5, q6, q7, q8, q9, q10, q11, q12⟩ := blk13 (h := ⟨id, qr, op, aa, tc, rd, ra, z, rc⟩) HQ.out
  simp only at q0 q1 q2 q3 q4 q5 q6 q7 q8
  clear HQ
  go_wp2
  refine bodyPost_ret (v := .tuple #[.agg #[.int .i64 id, .bool qr, .int .i64 op, .bool aa, .bool tc, .bool rd, .bool ra, .int .i64 z, .int .i64 rc, .slice y0 qs.length k0, .slice y1 (kpL c.data.toList an).length k1, .slice y2 (kpL c.data.toList ns).length k2, .slice y3 (kpL c.data.toList ar).length k3], .int .i64 0]) (by simp [results, Try.results8, go_sem, q0, q1, q2, q3, q4, q5, q6, q7, q8, q9, q10, q11, q12]) rfl ⟨y0, y1, y2, y3, k0, k1, k2, k3, rfl, HE.out, HB5.out⟩

set_option maxRecDepth 20000 in
set_option maxHeartbeats 2000000 in
theorem filter_no (c : ByteArray) (id : Int) (qr : Bool) (op : Int) (aa tc rd ra : Bool) (z rc : Int) (qs : List Qn) (an ns ar : List Rc) (v0 v1 v2 v3 : Value) (w : World) (h0 : Row w v0 qs.length (qC qs)) (h1 : Row w v1 an.length (rC an)) (h2 : Row w v2 ns.length (rC ns)) (h3 : Row w v3 ar.length (rC ar)) (hc : c.size ≤ maxLen) (hn : isName c.data.toList = false) :
    Calls Try.prog 8 #[.agg #[.int .i64 id, .bool qr, .int .i64 op, .bool aa, .bool tc, .bool rd, .bool ra, .int .i64 z, .int .i64 rc, v0, v1, v2, v3], .string c] w fun e w' => e = .returned (.tuple #[.agg #[.int .i64 0, .bool false, .int .i64 0, .bool false, .bool false, .bool false, .bool false, .int .i64 0, .int .i64 0, .slice none 0 0, .slice none 0 0, .slice none 0 0, .slice none 0 0], .int .i64 1200]) ∧ Below w.heap.size w w' := by
  obtain ⟨x0, c0, rfl⟩ := row_slice h0
  obtain ⟨x1, c1, rfl⟩ := row_slice h1
  obtain ⟨x2, c2, rfl⟩ := row_slice h2
  obtain ⟨x3, c3, rfl⟩ := row_slice h3
  have hb : Below w.heap.size w w := Below.refl _ _
  clear h0 h1 h2 h3
  have KR := Blk.new (w.alloc (.cells (msgC ⟨id, qr, op, aa, tc, rd, ra, z, rc⟩ (.slice x0 qs.length c0) (.slice x1 an.length c1) (.slice x2 ns.length c2) (.slice x3 ar.length c3)) 27)) (msgC hdZ (.slice none 0 0) (.slice none 0 0) (.slice none 0 0) (.slice none 0 0)) 27
  have HBW : Hid (Below w.heap.size w ((w.alloc (.cells (msgC ⟨id, qr, op, aa, tc, rd, ra, z, rc⟩ (.slice x0 qs.length c0) (.slice x1 an.length c1) (.slice x2 ns.length c2) (.slice x3 ar.length c3)) 27)).alloc (.cells (msgC hdZ (.slice none 0 0) (.slice none 0 0) (.slice none 0 0) (.slice none 0 0)) 27))) := lay (lay hb _) _
  rw [World.size_alloc] at KR
  unfold msgC hdZ at KR HBW
  simp only at KR HBW
  go_enter Try.func8, Try.ntmps8
  go_wp2_with (go_at_call 18; go_must (refine (may_as _ false _ hc hn).mono ?_); rintro e w' ⟨rfl, hw⟩; obtain rfl := hw.symm; revert KR HBW; generalize (w.alloc _).alloc _ = W0; intro KR HBW; obtain ⟨g0, g1, g2, g3, g4, g5, g6, g7, g8, g9, g10, g11, g12⟩ := open13 KR; obtain ⟨o0, o1, o2, o3, o4, o5, o6, o7, o8, o9, o10, o11, o12⟩ := blk13 (h := hdZ) KR; unfold hdZ at o0 o1 o2 o3 o4 o5 o6 o7 o8; simp only at o0 o1 o2 o3 o4 o5 o6 o7 o8; have HQ : Hid (Blk (set13 W0 (w.heap.size + 1) hdZ (.slice none 0 0) (.slice none 0 0) (.slice none 0 0) (.slice none 0 0)) (w.heap.size + 1) (msgC hdZ (.slice none 0 0) (.slice none 0 0) (.slice none 0 0) (.slice none 0 0)) 27) := set13_blk (h' := hdZ) KR; have HB5 : Hid (Below w.heap.size w (set13 W0 (w.heap.size + 1) hdZ (.slice none 0 0) (.slice none 0 0) (.slice none 0 0) (.slice none 0 0))) := Turn.below HBW.out (set13_turn _ _ _ _ _ _ _) HBW.out.size (fun i e => (by omega)))
  obtain ⟨q0, q1, q2, q3, q4, q5, q6, q7, q8, q9, q10, q11, q12⟩ := blk13 (h := hdZ) HQ.out
  unfold hdZ at q0 q1 q2 q3 q4 q5 q6 q7 q8
  simp only at q0 q1 q2 q3 q4 q5 q6 q7 q8
  exact bodyPost_ret (v := .tuple #[.agg #[.int .i64 0, .bool false, .int .i64 0, .bool false, .bool false, .bool false, .bool false, .int .i64 0, .int .i64 0, .slice none 0 0, .slice none 0 0, .slice none 0 0, .slice none 0 0], .int .i64 1200]) (by simp only [set13, hdZ] at q0 q1 q2 q3 q4 q5 q6 q7 q8 q9 q10 q11 q12; simp [results, Try.results8, go_sem, q0, q1, q2, q3, q4, q5, q6, q7, q8, q9, q10, q11, q12]) rfl ⟨rfl, HB5.out⟩

end Go.Proofs.Ytnecdpieoipjdaa
