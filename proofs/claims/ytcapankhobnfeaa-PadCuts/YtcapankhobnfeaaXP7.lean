/- What CopyMsg gives. -/
import Derived.Test.YtcapankhobnfeaaXP6
import Derived.Lib.BufferWrite
import Derived.Lib.UnsafeStr
import Derived.Lib.AppendStr
import Derived.Laws.MakeOwn
import Derived.Deep.WholeRow
import Derived.Deep.AppendSrc
import Derived.Deep.Upon
import Derived.Deep.RegionHeld3
import Derived.Deep.RegionLawGrows
import Derived.SizedLaws
import Derived.Test.YtcapankhobnfeaaXP1
namespace Go.Proofs.Ytcapankhobnfeaa
open Go.RowKit
open Pl

/-- What holds while a message is copied; what holds once it is. -/
def CJ (W : World) (gm gr : Nat) (id : Int) (qr : Bool) (op : Int) (aa tc rd ra : Bool) (z rc : Int) (qs : List Qn) (an ns ar : List Rc) (x0 x1 x2 x3 : Option Addr) (c0 c1 c2 c3 : Nat) (l : Array Bool) (a : Act) (u : World) : Prop :=
  ∃ (p1 p2 p3 p4 q1 q2 q3 q4 d : Bool) (b1 b2 b3 b4 r1 r2 r3 r4 bl : Value), l = #[true, true, p1, true, true, q1, p2, true, true, q2, p3, true, true, q3, p4, true, true, q4, d, false] ∧ a = ⟨#[.agg #[.int .i64 id, .bool qr, .int .i64 op, .bool aa, .bool tc, .bool rd, .bool ra, .int .i64 z, .int .i64 rc, .slice x0 qs.length c0, .slice x1 an.length c1, .slice x2 ns.length c2, .slice x3 ar.length c3], .pointer (some ⟨gm, 0, none⟩), .pointer (some ⟨gr, 0, none⟩), .pointer (some ⟨gm, 0, none⟩), .agg #[.int .i64 id, .bool qr, .int .i64 op, .bool aa, .bool tc, .bool rd, .bool ra, .int .i64 z, .int .i64 rc], b1, .pointer (some ⟨gm, 9, none⟩), .slice x0 qs.length c0, r1, b2, .pointer (some ⟨gm, 10, none⟩), .slice x1 an.length c1, r2, b3, .pointer (some ⟨gm, 11, none⟩), .slice x2 ns.length c2, r3, b4, .pointer (some ⟨gm, 12, none⟩), .slice x3 ar.length c3, r4, bl], []⟩ ∧ Below W.heap.size W u ∧
    (p1 = true → ∃ g, b1 = .slice (some g) 0 0) ∧ (p2 = true → ∃ g, b2 = .slice (some g) 0 0) ∧ (p3 = true → ∃ g, b3 = .slice (some g) 0 0) ∧ (p4 = true → ∃ g, b4 = .slice (some g) 0 0) ∧
    (q1 = true → CRow W.heap.size u 46 3 r1 qs.length (qC qs)) ∧ (q2 = true → CRow W.heap.size u 54 5 r2 an.length (rC an)) ∧ (q3 = true → CRow W.heap.size u 54 5 r3 ns.length (rC ns)) ∧ (q4 = true → CRow W.heap.size u 54 5 r4 ar.length (rC ar)) ∧
    (d = true → q1 = true ∧ q2 = true ∧ q3 = true ∧ q4 = true ∧ bl = .agg #[.int .i64 id, .bool qr, .int .i64 op, .bool aa, .bool tc, .bool rd, .bool ra, .int .i64 z, .int .i64 rc, r1, r2, r3, r4])
def CE (w W : World) (gm gr : Nat) (id : Int) (qr : Bool) (op : Int) (aa tc rd ra : Bool) (z rc : Int) (qs : List Qn) (an ns ar : List Rc) (x0 x1 x2 x3 : Option Addr) (c0 c1 c2 c3 : Nat) (l : Array Bool) (a : Act) (u : World) : Prop :=
  ∃ (b1 b2 b3 b4 r1 r2 r3 r4 bl : Value), l = #[true, true, true, true, true, true, true, true, true, true, true, true, true, true, true, true, true, true, true, true] ∧ a = ⟨#[.agg #[.int .i64 id, .bool qr, .int .i64 op, .bool aa, .bool tc, .bool rd, .bool ra, .int .i64 z, .int .i64 rc, .slice x0 qs.length c0, .slice x1 an.length c1, .slice x2 ns.length c2, .slice x3 ar.length c3], .pointer (some ⟨gm, 0, none⟩), .pointer (some ⟨gr, 0, none⟩), .pointer (some ⟨gm, 0, none⟩), .agg #[.int .i64 id, .bool qr, .int .i64 op, .bool aa, .bool tc, .bool rd, .bool ra, .int .i64 z, .int .i64 rc], b1, .pointer (some ⟨gm, 9, none⟩), .slice x0 qs.length c0, r1, b2, .pointer (some ⟨gm, 10, none⟩), .slice x1 an.length c1, r2, b3, .pointer (some ⟨gm, 11, none⟩), .slice x2 ns.length c2, r3, b4, .pointer (some ⟨gm, 12, none⟩), .slice x3 ar.length c3, r4, bl], []⟩ ∧ Below w.heap.size w u ∧ Blk u gm (msgC ⟨id, qr, op, aa, tc, rd, ra, z, rc⟩ (.slice x0 qs.length c0) (.slice x1 an.length c1) (.slice x2 ns.length c2) (.slice x3 ar.length c3)) 29 ∧ Blk u gr #[.int .i64 id, .bool qr, .int .i64 op, .bool aa, .bool tc, .bool rd, .bool ra, .int .i64 z, .int .i64 rc, r1, r2, r3, r4] 29 ∧
    CRow W.heap.size u 46 3 r1 qs.length (qC qs) ∧ CRow W.heap.size u 54 5 r2 an.length (rC an) ∧ CRow W.heap.size u 54 5 r3 ns.length (rC ns) ∧ CRow W.heap.size u 54 5 r4 ar.length (rC ar)

theorem all_listed {i : Nat} : Array.getD #[true, true, true, true, true, true, true, true, true, true, true, true, true, true, true, true, true, true, true, true] i true = true := by
  rw [Array.getD_eq_getD_getElem?]
  by_cases h : i < 20
  · match i, h with
    | 0, _ => rfl
    | 1, _ => rfl
    | 2, _ => rfl
    | 3, _ => rfl
    | 4, _ => rfl
    | 5, _ => rfl
    | 6, _ => rfl
    | 7, _ => rfl
    | 8, _ => rfl
    | 9, _ => rfl
    | 10, _ => rfl
    | 11, _ => rfl
    | 12, _ => rfl
    | 13, _ => rfl
    | 14, _ => rfl
    | 15, _ => rfl
    | 16, _ => rfl
    | 17, _ => rfl
    | 18, _ => rfl
    | 19, _ => rfl
    | n + 20, h => exact absurd h (by omega)
  · rw [Array.getElem?_eq_none (by show 20 ≤ i; omega)]; rfl

set_option maxRecDepth 20000 in
set_option maxHeartbeats 8000000 in
theorem copyMsg_any (id : Int) (qr : Bool) (op : Int) (aa tc rd ra : Bool) (z rc : Int) (qs : List Qn) (an ns ar : List Rc) (v0 v1 v2 v3 : Value) (w : World) (h0 : QRow w v0 qs) (h1 : RRow w v1 an) (h2 : RRow w v2 ns) (h3 : RRow w v3 ar) (z0 : qs.length * 32 ≤ 140737488351232) (z1 : an.length * 56 ≤ 140737488351232) (z2 : ns.length * 56 ≤ 140737488351232) (z3 : ar.length * 56 ≤ 140737488351232) :
    Calls Try.prog 11 #[.agg #[.int .i64 id, .bool qr, .int .i64 op, .bool aa, .bool tc, .bool rd, .bool ra, .int .i64 z, .int .i64 rc, v0, v1, v2, v3]] w fun e w' => ∃ (y0 y1 y2 y3 : Option Addr) (k0 k1 k2 k3 : Nat), e = .returned (.agg #[.int .i64 id, .bool qr, .int .i64 op, .bool aa, .bool tc, .bool rd, .bool ra, .int .i64 z, .int .i64 rc, .slice y0 qs.length k0, .slice y1 an.length k1, .slice y2 ns.length k2, .slice y3 ar.length k3]) ∧
      QRow w' (.slice y0 qs.length k0) qs ∧ RRow w' (.slice y1 an.length k1) an ∧ RRow w' (.slice y2 ns.length k2) ns ∧ RRow w' (.slice y3 ar.length k3) ar ∧ Below w.heap.size w w' := by
  obtain ⟨x0, c0, rfl⟩ := row_slice h0.1
  obtain ⟨x1, c1, rfl⟩ := row_slice h1.1
  obtain ⟨x2, c2, rfl⟩ := row_slice h2.1
  obtain ⟨x3, c3, rfl⟩ := row_slice h3.1
  have hb : Below w.heap.size w w := Below.refl _ _
  have H0 : Hid (QRow w (.slice x0 qs.length c0) qs) := h0
  have H1 : Hid (RRow w (.slice x1 an.length c1) an) := h1
  have H2 : Hid (RRow w (.slice x2 ns.length c2) ns) := h2
  have H3 : Hid (RRow w (.slice x3 ar.length c3) ar) := h3
  obtain ⟨iq, hq⟩ := info_parts infoQ
  obtain ⟨ir, hr⟩ := info_parts infoR
  clear h0 h1 h2 h3
  have KM := (Blk.new w (msgC ⟨id, qr, op, aa, tc, rd, ra, z, rc⟩ (.slice x0 qs.length c0) (.slice x1 an.length c1) (.slice x2 ns.length c2) (.slice x3 ar.length c3)) 29).alloc (.cells (msgC hdZ (.slice none 0 0) (.slice none 0 0) (.slice none 0 0) (.slice none 0 0)) 29)
  have KR := Blk.new (w.alloc (.cells (msgC ⟨id, qr, op, aa, tc, rd, ra, z, rc⟩ (.slice x0 qs.length c0) (.slice x1 an.length c1) (.slice x2 ns.length c2) (.slice x3 ar.length c3)) 29)) (msgC hdZ (.slice none 0 0) (.slice none 0 0) (.slice none 0 0) (.slice none 0 0)) 29
  have HBW : Hid (Below w.heap.size w ((w.alloc (.cells (msgC ⟨id, qr, op, aa, tc, rd, ra, z, rc⟩ (.slice x0 qs.length c0) (.slice x1 an.length c1) (.slice x2 ns.length c2) (.slice x3 ar.length c3)) 29)).alloc (.cells (msgC hdZ (.slice none 0 0) (.slice none 0 0) (.slice none 0 0) (.slice none 0 0)) 29))) := lay (lay hb _) _
  rw [World.size_alloc] at KR
  unfold msgC hdZ at KM KR HBW
  simp only at KM KR HBW
  go_enter Try.func11, Try.ntmps11
  go_wp2
  revert KM KR HBW
  generalize (w.alloc _).alloc _ = W0
  intro KM KR HBW
  replace KM := KM.below (Below.refl _ _).drew
  replace KR := KR.below (Below.refl _ _).drew
  replace HBW : Hid (Below w.heap.size w W0.drew) := HBW.out.drew
  have hgr := KR.lt
  have hlo : w.heap.size < w.heap.size + 1 := by omega
  obtain ⟨gr, hgre⟩ : ∃ gr, w.heap.size + 1 = gr := ⟨_, rfl⟩
  rw [hgre] at KR hgr hlo ⊢
  clear hgre
  obtain ⟨gm, hgme⟩ : ∃ gm, w.heap.size = gm := ⟨_, rfl⟩
  have hne : gm ≠ gr := by omega
  rw [hgme] at KM
  simp only [hgme]
  refine wp_region_held_drew (S := fun u => Blk u gm (msgC ⟨id, qr, op, aa, tc, rd, ra, z, rc⟩ (.slice x0 qs.length c0) (.slice x1 an.length c1) (.slice x2 ns.length c2) (.slice x3 ar.length c3)) 29) (by kernel_rfl) KM (fun hHeld => ?_)
  refine wpAnyH_take (i := 0) (v := .pointer (some ⟨gm, 0, none⟩)) rfl (by kernel_rfl) (by kernel_rfl) (by kernel_rfl) (fun _ _ _ h => h) (Or.inl ⟨by rfl, ?_⟩) hHeld ?_
  · intro u hu
    obtain ⟨e0, e1, e2, e3, e4, e5, e6, e7, e8, e9, e10, e11, e12⟩ := blk13 (h := ⟨id, qr, op, aa, tc, rd, ra, z, rc⟩) hu
    simp only at e0 e1 e2 e3 e4 e5 e6 e7 e8
    go_simp
  simp only [Act.put, List.getElem_toArray, List.getElem_cons_zero, List.setIfInBounds_toArray, List.set_cons_zero, List.set_cons_succ]
  refine wpAnyH_take (i := 1) (v := .agg #[.int .i64 id, .bool qr, .int .i64 op, .bool aa, .bool tc, .bool rd, .bool ra, .int .i64 z, .int .i64 rc]) rfl (by kernel_rfl) (by kernel_rfl) (by kernel_rfl) (fun _ _ _ h => h) (Or.inl ⟨by rfl, ?_⟩) hHeld ?_
  · intro u hu
    obtain ⟨e0, e1, e2, e3, e4, e5, e6, e7, e8, e9, e10, e11, e12⟩ := blk13 (h := ⟨id, qr, op, aa, tc, rd, ra, z, rc⟩) hu
    simp only at e0 e1 e2 e3 e4 e5 e6 e7 e8
    go_simp
  simp only [Act.put, List.getElem_toArray, List.getElem_cons_succ, List.getElem_cons_zero, List.setIfInBounds_toArray, List.set_cons_zero, List.set_cons_succ]
  refine wpAnyH_take (i := 3) (v := .pointer (some ⟨gm, 9, none⟩)) rfl (by kernel_rfl) (by kernel_rfl) (by kernel_rfl) (fun _ _ _ h => h) (Or.inl ⟨by rfl, ?_⟩) hHeld ?_
  · intro u hu
    obtain ⟨e0, e1, e2, e3, e4, e5, e6, e7, e8, e9, e10, e11, e12⟩ := blk13 (h := ⟨id, qr, op, aa, tc, rd, ra, z, rc⟩) hu
    simp only at e0 e1 e2 e3 e4 e5 e6 e7 e8
    go_simp
  simp only [Act.put, List.getElem_toArray, List.getElem_cons_succ, List.getElem_cons_zero, List.setIfInBounds_toArray, List.set_cons_zero, List.set_cons_succ]
  refine wpAnyH_take (i := 4) (v := .slice x0 qs.length c0) rfl (by kernel_rfl) (by kernel_rfl) (by kernel_rfl) (fun _ _ _ h => h) (Or.inl ⟨by rfl, ?_⟩) hHeld ?_
  · intro u hu
    obtain ⟨e0, e1, e2, e3, e4, e5, e6, e7, e8, e9, e10, e11, e12⟩ := blk13 (h := ⟨id, qr, op, aa, tc, rd, ra, z, rc⟩) hu
    simp only at e0 e1 e2 e3 e4 e5 e6 e7 e8
    go_simp
  simp only [Act.put, List.getElem_toArray, List.getElem_cons_succ, List.getElem_cons_zero, List.setIfInBounds_toArray, List.set_cons_zero, List.set_cons_succ]
  refine wpAnyH_take (i := 7) (v := .pointer (some ⟨gm, 10, none⟩)) rfl (by kernel_rfl) (by kernel_rfl) (by kernel_rfl) (fun _ _ _ h => h) (Or.inl ⟨by rfl, ?_⟩) hHeld ?_
  · intro u hu
    obtain ⟨e0, e1, e2, e3, e4, e5, e6, e7, e8, e9, e10, e11, e12⟩ := blk13 (h := ⟨id, qr, op, aa, tc, rd, ra, z, rc⟩) hu
    simp only at e0 e1 e2 e3 e4 e5 e6 e7 e8
    go_simp
  simp only [Act.put, List.getElem_toArray, List.getElem_cons_succ, List.getElem_cons_zero, List.setIfInBounds_toArray, List.set_cons_zero, List.set_cons_succ]
  refine wpAnyH_take (i := 8) (v := .slice x1 an.length c1) rfl (by kernel_rfl) (by kernel_rfl) (by kernel_rfl) (fun _ _ _ h => h) (Or.inl ⟨by rfl, ?_⟩) hHeld ?_
  · intro u hu
    obtain ⟨e0, e1, e2, e3, e4, e5, e6, e7, e8, e9, e10, e11, e12⟩ := blk13 (h := ⟨id, qr, op, aa, tc, rd, ra, z, rc⟩) hu
    simp only at e0 e1 e2 e3 e4 e5 e6 e7 e8
    go_simp
  simp only [Act.put, List.getElem_toArray, List.getElem_cons_succ, List.getElem_cons_zero, List.setIfInBounds_toArray, List.set_cons_zero, List.set_cons_succ]
  refine wpAnyH_take (i := 11) (v := .pointer (some ⟨gm, 11, none⟩)) rfl (by kernel_rfl) (by kernel_rfl) (by kernel_rfl) (fun _ _ _ h => h) (Or.inl ⟨by rfl, ?_⟩) hHeld ?_
  · intro u hu
    obtain ⟨e0, e1, e2, e3, e4, e5, e6, e7, e8, e9, e10, e11, e12⟩ := blk13 (h := ⟨id, qr, op, aa, tc, rd, ra, z, rc⟩) hu
    simp only at e0 e1 e2 e3 e4 e5 e6 e7 e8
    go_simp
  simp only [Act.put, List.getElem_toArray, List.getElem_cons_succ, List.getElem_cons_zero, List.setIfInBounds_toArray, List.set_cons_zero, List.set_cons_succ]
  refine wpAnyH_take (i := 12) (v := .slice x2 ns.length c2) rfl (by kernel_rfl) (by kernel_rfl) (by kernel_rfl) (fun _ _ _ h => h) (Or.inl ⟨by rfl, ?_⟩) hHeld ?_
  · intro u hu
    obtain ⟨e0, e1, e2, e3, e4, e5, e6, e7, e8, e9, e10, e11, e12⟩ := blk13 (h := ⟨id, qr, op, aa, tc, rd, ra, z, rc⟩) hu
    simp only at e0 e1 e2 e3 e4 e5 e6 e7 e8
    go_simp
  simp only [Act.put, List.getElem_toArray, List.getElem_cons_succ, List.getElem_cons_zero, List.setIfInBounds_toArray, List.set_cons_zero, List.set_cons_succ]
  refine wpAnyH_take (i := 15) (v := .pointer (some ⟨gm, 12, none⟩)) rfl (by kernel_rfl) (by kernel_rfl) (by kernel_rfl) (fun _ _ _ h => h) (Or.inl ⟨by rfl, ?_⟩) hHeld ?_
  · intro u hu
    obtain ⟨e0, e1, e2, e3, e4, e5, e6, e7, e8, e9, e10, e11, e12⟩ := blk13 (h := ⟨id, qr, op, aa, tc, rd, ra, z, rc⟩) hu
    simp only at e0 e1 e2 e3 e4 e5 e6 e7 e8
    go_simp
  simp only [Act.put, List.getElem_toArray, List.getElem_cons_succ, List.getElem_cons_zero, List.setIfInBounds_toArray, List.set_cons_zero, List.set_cons_succ]
  refine wpAnyH_take (i := 16) (v := .slice x3 ar.length c3) rfl (by kernel_rfl) (by kernel_rfl) (by kernel_rfl) (fun _ _ _ h => h) (Or.inl ⟨by rfl, ?_⟩) hHeld ?_
  · intro u hu
    obtain ⟨e0, e1, e2, e3, e4, e5, e6, e7, e8, e9, e10, e11, e12⟩ := blk13 (h := ⟨id, qr, op, aa, tc, rd, ra, z, rc⟩) hu
    simp only at e0 e1 e2 e3 e4 e5 e6 e7 e8
    go_simp
  simp only [Act.put, List.getElem_toArray, List.getElem_cons_succ, List.getElem_cons_zero, List.setIfInBounds_toArray, List.set_cons_zero, List.set_cons_succ]
  generalize W0.drew = W at KM KR HBW hgr hHeld ⊢
  have HKM : Hid (Blk W gm (msgC ⟨id, qr, op, aa, tc, rd, ra, z, rc⟩ (.slice x0 qs.length c0) (.slice x1 an.length c1) (.slice x2 ns.length c2) (.slice x3 ar.length c3)) 29) := KM
  have HKR : Hid (Blk W gr (msgC hdZ (.slice none 0 0) (.slice none 0 0) (.slice none 0 0) (.slice none 0 0)) 29) := KR
  clear KM KR hHeld hb
  refine wpAnyH_inv (fun l a u => CJ W gm gr id qr op aa tc rd ra z rc qs an ns ar x0 x1 x2 x3 c0 c1 c2 c3 l a u ∨ CE w W gm gr id qr op aa tc rd ra z rc qs an ns ar x0 x1 x2 x3 c0 c1 c2 c3 l a u) ?_ ?_ ?_ _ _ _ _ (by decide) (.inl ⟨false, false, false, false, false, false, false, false, false, _, _, _, _, _, _, _, _, _, rfl, rfl, Below.refl _ _, fun h => (by simp at h), fun h => (by simp at h), fun h => (by simp at h), fun h => (by simp at h), fun h => (by simp at h), fun h => (by simp at h), fun h => (by simp at h), fun h => (by simp at h), fun h => (by simp at h)⟩)
  · intro l a u hJ
    rcases hJ with hJ | hJ
    · obtain ⟨p1, p2, p3, p4, q1, q2, q3, q4, d, b1, b2, b3, b4, r1, r2, r3, r4, bl, rfl, rfl, hbu, _⟩ := hJ
      exact HKM.out.below hbu
    · obtain ⟨b1, b2, b3, b4, r1, r2, r3, r4, bl, rfl, rfl, hbu, hkm, _⟩ := hJ
      exact hkm
  · intro l a u hJ i hi o ho hall K hK
    have HK : Hid (∀ a' w', (CJ W gm gr id qr op aa tc rd ra z rc qs an ns ar x0 x1 x2 x3 c0 c1 c2 c3 (l.setIfInBounds i true) a' w' ∨ CE w W gm gr id qr op aa tc rd ra z rc qs an ns ar x0 x1 x2 x3 c0 c1 c2 c3 (l.setIfInBounds i true) a' w') → K a' w') := hK
    clear hK
    rcases hJ with hJ | hJ
    rotate_left
    · obtain ⟨b1, b2, b3, b4, r1, r2, r3, r4, bl, rfl, _⟩ := hJ
      rw [all_listed] at hi
      simp at hi
    obtain ⟨p1, p2, p3, p4, q1, q2, q3, q4, d, b1, b2, b3, b4, r1, r2, r3, r4, bl, rfl, rfl, hbu, e1, e2, e3, e4, k1, k2, k3, k4, ed⟩ := hJ
    match i, hi, ho, hall with
    | 0, hi, _, _ => exact absurd (show true = false from hi) (by decide)
    | 1, hi, _, _ => exact absurd (show true = false from hi) (by decide)
    | 2, hi, ho, hall =>
      have hp : p1 = false := hi
      subst hp
      simp at ho
      subst ho
      go_simp
      exact HK.out _ _ (.inl ⟨true, p2, p3, p4, q1, q2, q3, q4, d, .slice (some ⟨u.heap.size, 0, none⟩) 0 0, b2, b3, b4, r1, r2, r3, r4, bl, rfl, rfl, lay hbu _, fun _ => ⟨_, rfl⟩, e2, e3, e4, fun h => (k1 h).below (lay (Below.refl _ _) _), fun h => (k2 h).below (lay (Below.refl _ _) _), fun h => (k3 h).below (lay (Below.refl _ _) _), fun h => (k4 h).below (lay (Below.refl _ _) _), ed⟩)
    | 3, hi, _, _ => exact absurd (show true = false from hi) (by decide)
    | 4, hi, _, _ => exact absurd (show true = false from hi) (by decide)
    | 5, hi, ho, hall =>
      have hq' : q1 = false := hi
      subst hq'
      simp at ho
      subst ho
      have hp : p1 = true := hall ⟨2, .data⟩ (by simp) rfl
      subst hp
      obtain ⟨g, rfl⟩ := e1 rfl
      have hd : d = false := by
        cases d with
        | false => rfl
        | true => have := (ed rfl).1; simp at this
      subst hd
      refine step_copy rfl (.tmp 5) (.tmp 7) 26 rfl W.heap.size 46 iq (.agg #[.string ⟨#[]⟩, .int .i64 0, .int .i64 0]) 3 32 Try.underlying26 hq.1 hq.2.1 hq.2.2.1 hq.2.2.2 rfl (by decide) g rfl _ qs.length (qC qs) rfl ((H0.out.below (next HBW.out hbu)).1) (qC_len qs) (qC_one qs) (by omega) H0.out.2.1 hbu.size (fun v' u' cr bl2 => ?_)
      exact HK.out _ _ (.inl ⟨true, p2, p3, p4, true, q2, q3, q4, false, _, b2, b3, b4, v', r2, r3, r4, bl, rfl, rfl, next hbu bl2, fun _ => ⟨g, rfl⟩, e2, e3, e4, fun _ => cr, fun h => (k2 h).below bl2, fun h => (k3 h).below bl2, fun h => (k4 h).below bl2, fun h => by simp at h⟩)
    | 6, hi, ho, hall =>
      have hp : p2 = false := hi
      subst hp
      simp at ho
      subst ho
      go_simp
      exact HK.out _ _ (.inl ⟨p1, true, p3, p4, q1, q2, q3, q4, d, b1, .slice (some ⟨u.heap.size, 0, none⟩) 0 0, b3, b4, r1, r2, r3, r4, bl, rfl, rfl, lay hbu _, e1, fun _ => ⟨_, rfl⟩, e3, e4, fun h => (k1 h).below (lay (Below.refl _ _) _), fun h => (k2 h).below (lay (Below.refl _ _) _), fun h => (k3 h).below (lay (Below.refl _ _) _), fun h => (k4 h).below (lay (Below.refl _ _) _), ed⟩)
    | 7, hi, _, _ => exact absurd (show true = false from hi) (by decide)
    | 8, hi, _, _ => exact absurd (show true = false from hi) (by decide)
    | 9, hi, ho, hall =>
      have hq' : q2 = false := hi
      subst hq'
      simp at ho
      subst ho
      have hp : p2 = true := hall ⟨6, .data⟩ (by simp) rfl
      subst hp
      obtain ⟨g, rfl⟩ := e2 rfl
      have hd : d = false := by
        cases d with
        | false => rfl
        | true => have := (ed rfl).2.1; simp at this
      subst hd
      refine step_copy rfl (.tmp 9) (.tmp 11) 27 rfl W.heap.size 54 ir (.agg #[.string ⟨#[]⟩, .int .i64 0, .int .i64 0, .int .i64 0, .string ⟨#[]⟩]) 5 56 Try.underlying27 hr.1 hr.2.1 hr.2.2.1 hr.2.2.2 rfl (by decide) g rfl _ an.length (rC an) rfl ((H1.out.below (next HBW.out hbu)).1) (rC_len an) (rC_one an) (by omega) H1.out.2.1 hbu.size (fun v' u' cr bl2 => ?_)
      exact HK.out _ _ (.inl ⟨p1, true, p3, p4, q1, true, q3, q4, false, b1, _, b3, b4, r1, v', r3, r4, bl, rfl, rfl, next hbu bl2, e1, fun _ => ⟨g, rfl⟩, e3, e4, fun h => (k1 h).below bl2, fun _ => cr, fun h => (k3 h).below bl2, fun h => (k4 h).below bl2, fun h => by simp at h⟩)
    | 10, hi, ho, hall =>
      have hp : p3 = false := hi
      subst hp
      simp at ho
      subst ho
      go_simp
      exact HK.out _ _ (.inl ⟨p1, p2, true, p4, q1, q2, q3, q4, d, b1, b2, .slice (some ⟨u.heap.size, 0, none⟩) 0 0, b4, r1, r2, r3, r4, bl, rfl, rfl, lay hbu _, e1, e2, fun _ => ⟨_, rfl⟩, e4, fun h => (k1 h).below (lay (Below.refl _ _) _), fun h => (k2 h).below (lay (Below.refl _ _) _), fun h => (k3 h).below (lay (Below.refl _ _) _), fun h => (k4 h).below (lay (Below.refl _ _) _), ed⟩)
    | 11, hi, _, _ => exact absurd (show true = false from hi) (by decide)
    | 12, hi, _, _ => exact absurd (show true = false from hi) (by decide)
    | 13, hi, ho, hall =>
      have hq' : q3 = false := hi
      subst hq'
      simp at ho
      subst ho
      have hp : p3 = true := hall ⟨10, .data⟩ (by simp) rfl
      subst hp
      obtain ⟨g, rfl⟩ := e3 rfl
      have hd : d = false := by
        cases d with
        | false => rfl
        | true => have := (ed rfl).2.2.1; simp at this
      subst hd
      refine step_copy rfl (.tmp 13) (.tmp 15) 27 rfl W.heap.size 54 ir (.agg #[.string ⟨#[]⟩, .int .i64 0, .int .i64 0, .int .i64 0, .string ⟨#[]⟩]) 5 56 Try.underlying27 hr.1 hr.2.1 hr.2.2.1 hr.2.2.2 rfl (by decide) g rfl _ ns.length (rC ns) rfl ((H2.out.below (next HBW.out hbu)).1) (rC_len ns) (rC_one ns) (by omega) H2.out.2.1 hbu.size (fun v' u' cr bl2 => ?_)
      exact HK.out _ _ (.inl ⟨p1, p2, true, p4, q1, q2, true, q4, false, b1, b2, _, b4, r1, r2, v', r4, bl, rfl, rfl, next hbu bl2, e1, e2, fun _ => ⟨g, rfl⟩, e4, fun h => (k1 h).below bl2, fun h => (k2 h).below bl2, fun _ => cr, fun h => (k4 h).below bl2, fun h => by simp at h⟩)
    | 14, hi, ho, hall =>
      have hp : p4 = false := hi
      subst hp
      simp at ho
      subst ho
      go_simp
      exact HK.out _ _ (.inl ⟨p1, p2, p3, true, q1, q2, q3, q4, d, b1, b2, b3, .slice (some ⟨u.heap.size, 0, none⟩) 0 0, r1, r2, r3, r4, bl, rfl, rfl, lay hbu _, e1, e2, e3, fun _ => ⟨_, rfl⟩, fun h => (k1 h).below (lay (Below.refl _ _) _), fun h => (k2 h).below (lay (Below.refl _ _) _), fun h => (k3 h).below (lay (Below.refl _ _) _), fun h => (k4 h).below (lay (Below.refl _ _) _), ed⟩)
    | 15, hi, _, _ => exact absurd (show true = false from hi) (by decide)
    | 16, hi, _, _ => exact absurd (show true = false from hi) (by decide)
    | 17, hi, ho, hall =>
      have hq' : q4 = false := hi
      subst hq'
      simp at ho
      subst ho
      have hp : p4 = true := hall ⟨14, .data⟩ (by simp) rfl
      subst hp
      obtain ⟨g, rfl⟩ := e4 rfl
      have hd : d = false := by
        cases d with
        | false => rfl
        | true => have := (ed rfl).2.2.2.1; simp at this
      subst hd
      refine step_copy rfl (.tmp 17) (.tmp 19) 27 rfl W.heap.size 54 ir (.agg #[.string ⟨#[]⟩, .int .i64 0, .int .i64 0, .int .i64 0, .string ⟨#[]⟩]) 5 56 Try.underlying27 hr.1 hr.2.1 hr.2.2.1 hr.2.2.2 rfl (by decide) g rfl _ ar.length (rC ar) rfl ((H3.out.below (next HBW.out hbu)).1) (rC_len ar) (rC_one ar) (by omega) H3.out.2.1 hbu.size (fun v' u' cr bl2 => ?_)
      exact HK.out _ _ (.inl ⟨p1, p2, p3, true, q1, q2, q3, true, false, b1, b2, b3, _, r1, r2, r3, v', bl, rfl, rfl, next hbu bl2, e1, e2, e3, fun _ => ⟨g, rfl⟩, fun h => (k1 h).below bl2, fun h => (k2 h).below bl2, fun h => (k3 h).below bl2, fun _ => cr, fun h => by simp at h⟩)
    | 18, hi, ho, hall =>
      have hd : d = false := hi
      subst hd
      simp at ho
      subst ho
      have f1 : q1 = true := hall ⟨5, .data⟩ (by simp) rfl
      have f2 : q2 = true := hall ⟨9, .data⟩ (by simp) rfl
      have f3 : q3 = true := hall ⟨13, .data⟩ (by simp) rfl
      have f4 : q4 = true := hall ⟨17, .data⟩ (by simp) rfl
      obtain ⟨y1, w1, s1⟩ := row_slice (k1 f1).row
      obtain ⟨y2, w2, s2⟩ := row_slice (k2 f2).row
      obtain ⟨y3, w3, s3⟩ := row_slice (k3 f3).row
      obtain ⟨y4, w4, s4⟩ := row_slice (k4 f4).row
      subst s1 s2 s3 s4
      go_simp
      exact HK.out _ _ (.inl ⟨p1, p2, p3, p4, q1, q2, q3, q4, true, b1, b2, b3, b4, _, _, _, _, _, rfl, rfl, hbu, e1, e2, e3, e4, k1, k2, k3, k4, fun _ => ⟨f1, f2, f3, f4, rfl⟩⟩)
    | 19, hi, ho, hall =>
      simp at ho
      subst ho
      have fd : d = true := hall ⟨18, .data⟩ (by simp) rfl
      have fp1 : p1 = true := hall ⟨2, .phase⟩ (by simp) rfl
      have fp2 : p2 = true := hall ⟨6, .phase⟩ (by simp) rfl
      have fp3 : p3 = true := hall ⟨10, .phase⟩ (by simp) rfl
      have fp4 : p4 = true := hall ⟨14, .phase⟩ (by simp) rfl
      obtain ⟨f1, f2, f3, f4, rfl⟩ := ed fd
      obtain ⟨y1, w1, s1⟩ := row_slice (k1 f1).row
      obtain ⟨y2, w2, s2⟩ := row_slice (k2 f2).row
      obtain ⟨y3, w3, s3⟩ := row_slice (k3 f3).row
      obtain ⟨y4, w4, s4⟩ := row_slice (k4 f4).row
      subst s1 s2 s3 s4
      have c1 := k1 f1
      have c2 := k2 f2
      have c3 := k3 f3
      have c4 := k4 f4
      subst fd fp1 fp2 fp3 fp4 f1 f2 f3 f4
      have KU := HKR.out.below hbu
      obtain ⟨g0, g1, g2, g3, g4, g5, g6, g7, g8, g9, g10, g11, g12⟩ := open13 KU
      obtain ⟨o0, o1, o2, o3, o4, o5, o6, o7, o8, o9, o10, o11, o12⟩ := blk13 (h := hdZ) KU
      have q := set13_blk (h := ⟨id, qr, op, aa, tc, rd, ra, z, rc⟩) (h' := hdZ) (v0 := .slice y1 qs.length w1) (v1 := .slice y2 an.length w2) (v2 := .slice y3 ns.length w3) (v3 := .slice y4 ar.length w4) KU
      have qt := set13_turn u gr ⟨id, qr, op, aa, tc, rd, ra, z, rc⟩ (.slice y1 qs.length w1) (.slice y2 an.length w2) (.slice y3 ns.length w3) (.slice y4 ar.length w4)
      have HQ : Hid _ := And.intro q qt
      unfold hdZ at o0 o1 o2 o3 o4 o5 o6 o7 o8
      simp only at o0 o1 o2 o3 o4 o5 o6 o7 o8
      clear q qt KU
      go_simp
      obtain ⟨q, qt⟩ := HQ.out
      exact HK.out _ _ (.inr ⟨_, _, _, _, _, _, _, _, _, rfl, rfl, Turn.below (next HBW.out hbu) qt (next HBW.out hbu).size (fun i e => by omega), qt.blk (HKM.out.below hbu) hne, q, c1.turn qt hgr, c2.turn qt hgr, c3.turn qt hgr, c4.turn qt hgr⟩)
    | n + 20, hi, _, _ =>
      rw [Array.getD_eq_getD_getElem?, Array.getElem?_eq_none (by show 20 ≤ n + 20; omega)] at hi
      simp at hi
  · intro l a u hJ hr
    have hall : ∀ i, l.getD i true = true := ready_nil (by kernel_rfl) (by rcases hJ with ⟨p1, p2, p3, p4, q1, q2, q3, q4, d, b1, b2, b3, b4, r1, r2, r3, r4, bl, rfl, _⟩ | ⟨b1, b2, b3, b4, r1, r2, r3, r4, bl, rfl, _⟩ <;> rfl) hr
    rcases hJ with hJ | hJ
    · obtain ⟨p1, p2, p3, p4, q1, q2, q3, q4, d, b1, b2, b3, b4, r1, r2, r3, r4, bl, rfl, _⟩ := hJ
      exact absurd (show false = true from hall 19) (by decide)
    · obtain ⟨b1, b2, b3, b4, r1, r2, r3, r4, bl, rfl, rfl, hbu, _, kr, k1, k2, k3, k4⟩ := hJ
      obtain ⟨y1, w1, s1⟩ := row_slice k1.row
      obtain ⟨y2, w2, s2⟩ := row_slice k2.row
      obtain ⟨y3, w3, s3⟩ := row_slice k3.row
      obtain ⟨y4, w4, s4⟩ := row_slice k4.row
      subst s1 s2 s3 s4
      have HF : Hid (QRow u (.slice y1 qs.length w1) qs ∧ RRow u (.slice y2 an.length w2) an ∧ RRow u (.slice y3 ns.length w3) ns ∧ RRow u (.slice y4 ar.length w4) ar ∧ Below w.heap.size w u) := ⟨⟨k1.row, H0.out.2⟩, ⟨k2.row, H1.out.2⟩, ⟨k3.row, H2.out.2⟩, ⟨k4.row, H3.out.2⟩, hbu⟩
      obtain ⟨q0, q1, q2, q3, q4, q5, q6, q7, q8, q9, q10, q11, q12⟩ := blk13 (h := ⟨id, qr, op, aa, tc, rd, ra, z, rc⟩) kr
      simp only at q0 q1 q2 q3 q4 q5 q6 q7 q8
      clear kr k1 k2 k3 k4 hbu hall hr
      go_wp2
      refine bodyPost_ret (v := .agg #[.int .i64 id, .bool qr, .int .i64 op, .bool aa, .bool tc, .bool rd, .bool ra, .int .i64 z, .int .i64 rc, .slice y1 qs.length w1, .slice y2 an.length w2, .slice y3 ns.length w3, .slice y4 ar.length w4]) (by simp [results, Try.results11, go_sem, q0, q1, q2, q3, q4, q5, q6, q7, q8, q9, q10, q11, q12]) rfl ⟨y1, y2, y3, y4, w1, w2, w3, w4, rfl, HF.out⟩

end Go.Proofs.Ytcapankhobnfeaa

/- What SpoilMsg leaves. -/
namespace Go.Proofs.Ytcapankhobnfeaa
open Go.RowKit
open Pl

/-- The cells at place f of each element are numbers. -/
def Ints (xs : List Value) (z f n : Nat) : Prop := ∀ j, j < n → ∃ t, xs[j * z + f]? = some (.int .i64 t)
theorem Ints.set {xs : List Value} {z f n : Nat} (h : Ints xs z f n) (i : Nat) (x : Int) : Ints (xs.set i (.int .i64 x)) z f n := by
  intro j hj
  obtain ⟨t, ht⟩ := h j hj
  by_cases e : i = j * z + f
  · subst e
    exact ⟨x, List.getElem?_set_self (List.getElem?_eq_some_iff.1 ht).1⟩
  · exact ⟨t, by rw [List.getElem?_set_ne e]; exact ht⟩
theorem ints_q (qs : List Qn) : Ints (qC qs) 3 1 qs.length := fun j hj => ⟨_, by rw [qC_at hj 1 (by decide)]; rfl⟩
theorem ints_r (rs : List Rc) : Ints (rC rs) 5 3 rs.length := fun j hj => ⟨_, by rw [rC_at hj 3 (by decide)]; rfl⟩

theorem own_len {w : World} {B e z n n0 k0 : Nat} {y : Option Addr} {xs : List Value} (h : w.ownsRow B e z (.slice y n0 k0) n xs) : n0 = n := by
  rcases h.2 with ⟨h1, h2⟩ | ⟨g, cap, cur, h1, _⟩
  · simp at h1; omega
  · simp at h1; exact h1.2.1
theorem own_apart {w : World} {B B' e e' z z' n n' : Nat} {v v' : Value} {xs xs' : List Value} (h : w.ownsRow B e z v n xs) (h' : w.ownsRow B' e' z' v' n' xs') (he : e ≠ e') {k : Nat} (hk : v.ownBlock = some k) : v'.ownBlock ≠ some k := by
  intro hk'
  rcases h.2 with ⟨h1, _⟩ | ⟨g, cap, cur, h1, _, hg, _⟩
  · rw [h1] at hk; simp [Value.ownBlock] at hk
  · rcases h'.2 with ⟨h2, _⟩ | ⟨g', cap', cur', h2, _, hg', _⟩
    · rw [h2] at hk'; simp [Value.ownBlock] at hk'
    · rw [h1] at hk
      rw [h2] at hk'
      simp [Value.ownBlock] at hk hk'
      subst hk hk'
      rw [hg] at hg'
      simp at hg'
      exact he hg'.2
/-- The blocks of a message's rows. -/
def SB (v0 v1 v2 v3 : Value) (k : Nat) : Prop := v0.ownBlock = some k ∨ v1.ownBlock = some k ∨ v2.ownBlock = some k ∨ v3.ownBlock = some k
theorem Turn.more {S S' : Nat → Prop} {w w' : World} (h : Turn S w w') (hs : ∀ k, S k → S' k) : Turn S' w w' := ⟨h.os, h.tape, h.output, h.size, fun k hk hn => h.block k hk (fun e => hn (hs k e))⟩
theorem Own.sb {B : Nat} {w : World} {v0 v1 v2 v3 : Value} {m : Ms} (h : Own B w v0 v1 v2 v3 m) {k : Nat} (hk : SB v0 v1 v2 v3 k) : B ≤ k ∧ k < w.heap.size := by
  rcases hk with hk | hk | hk | hk
  · exact h.q.lt k hk
  · exact h.an.lt k hk
  · exact h.ns.lt k hk
  · exact h.ar.lt k hk

end Go.Proofs.Ytcapankhobnfeaa

/- Blocks, rows and what calls leave of them, where the seat has no text of package wire's to take them from. -/
namespace Go.Proofs.Ytcapankhobnfeaa
open Go.RowKit


end Go.Proofs.Ytcapankhobnfeaa

/- Rows that are appended to each other; a region that draws its order; copies of strings. -/
namespace Go.Proofs.Ytcapankhobnfeaa
open Go.RowKit


/-- Elements are appended to a row that the call owns, out of a row that lies anywhere; there may be none. -/
theorem wpList_appG (w : World) {ops : Array Oper} {rest : List Oper} {o : Oper} {a : Act} {Q : Exit → Act → World → Prop} (hgd : o.guard = none) (s x : Operand) (t e : TypeId) (i : TypeInfo) (z : Value) (size bytes : Nat)
    (h1 : Try.prog.underlying t = some (.slice e)) (h2 : Try.prog.info? e = some i) (h3 : i.zero = some z) (h4 : i.size = size) (h5 : i.bytes = bytes) (h6 : z.cells.size = size) (h7 : 0 < size)
    (ho : o.op = .call { callee := .builtin .append, args := #[s, x], argTypes := #[t, t] }) (base : Nat) (v : Value) (n : Nat) (xs : List Value) (hs : a.eval s = v) (hown : w.ownsRow base e size v n xs)
    (u : Value) (m : Nat) (ys : List Value) (hx : a.eval x = u) (hrow : Row w u m ys) (hl : ys.length = m * size) (h1c : ∀ y ∈ ys, y.oneCell' = true) (hb : (n + m) * bytes ≤ 140737488355328) (hm : n + m ≤ maxLen) (hbase : base ≤ w.heap.size)
    (h : ∀ v' w', w'.ownsRow base e size v' (n + m) (xs ++ ys) → w.grownBy w' v.ownBlock → (∀ k, v'.ownBlock = some k → v.ownBlock = some k ∨ w.heap.size ≤ k) → wpList Try.prog ops Q rest (a.put o.dst v') w') :
    wpList Try.prog ops Q (o :: rest) a w := by
  obtain ⟨x0, c, rfl, hc⟩ := hrow.src
  by_cases hm0 : m = 0
  · subst hm0
    have hys : ys = [] := List.eq_nil_of_length_eq_zero (by simpa using hl)
    subst hys
    refine wpList_plain hgd fun K hK => ?_
    have hsrc : Src Try.prog i.size t (.slice x0 0 c) 0 [] w := by
      cases x0 with
      | none => exact Src.ofNil w h1 c
      | some ad => exact Src.ofSlice w h1 ad 0 c [] (by simp) (fun j u hu => by simp at hu) (fun u hu => by cases hu)
    have hv : ∃ b l k, v = .slice b l k ∧ l ≤ k := by
      rcases hown.2 with ⟨rfl, rfl⟩ | ⟨g, cap, cur, rfl, _, _, hnc, _⟩
      · exact ⟨_, _, _, rfl, Nat.le_refl _⟩
      · exact ⟨_, _, _, rfl, hnc⟩
    obtain ⟨b, l, k, hv, hlk⟩ := hv
    have hrun := run_append_nothing (P := Try.prog) w t t o.type e i h1 h2 b l k hlk _ hsrc
    rw [← hv] at hrun
    unfold Oper.wp
    simp only [execOp, ho, resolve, invoke, builtin, Sem.run_bind, Sem.run_pure, Result.andThen_ok, List.map_toArray, List.map_cons, List.map_nil, hs, hx, hrun]
    exact hK _ _ (h v w (by simpa using hown) (World.grownBy.refl w _) (fun k hk => .inl hk))
  · rcases hc with h0 | ⟨ad, rfl, hcell⟩
    · exact absurd h0 hm0
    refine wpList_append_lies w hgd s x t ho base e i z size bytes h1 h2 h3 h4 h5 h6 h7 v n xs hs hown ad m c ys hx hl hcell h1c (by omega) hm (by omega) hbase _ rfl ?_
    intro g cap w' g1 g2 g3 g4
    refine h _ w' g1 g2 (fun k hk => ?_)
    rcases g3 with g3 | g3
    · exact .inl (by rw [g3]; exact hk)
    · have : k = g := by simp [Value.ownBlock] at hk; exact hk.symm
      exact .inr (by omega)

/-- The same in a region that draws its order. -/
theorem step_appG (w : World) {ops : Array Oper} {o : Oper} {a : Act} {K : Act → World → Prop} {Q : Exit → Act → World → Prop} {E : Prop} (hgd : o.guard = none) (s x : Operand) (t e : TypeId) (i : TypeInfo) (z : Value) (size bytes : Nat)
    (h1 : Try.prog.underlying t = some (.slice e)) (h2 : Try.prog.info? e = some i) (h3 : i.zero = some z) (h4 : i.size = size) (h5 : i.bytes = bytes) (h6 : z.cells.size = size) (h7 : 0 < size)
    (ho : o.op = .call { callee := .builtin .append, args := #[s, x], argTypes := #[t, t] }) (base : Nat) (v : Value) (n : Nat) (xs : List Value) (hs : a.eval s = v) (hown : w.ownsRow base e size v n xs)
    (u : Value) (m : Nat) (ys : List Value) (hx : a.eval x = u) (hrow : Row w u m ys) (hl : ys.length = m * size) (h1c : ∀ y ∈ ys, y.oneCell' = true) (hb : (n + m) * bytes ≤ 140737488355328) (hm : n + m ≤ maxLen) (hbase : base ≤ w.heap.size)
    (h : ∀ v' w', w'.ownsRow base e size v' (n + m) (xs ++ ys) → w.grownBy w' v.ownBlock → (∀ k, v'.ownBlock = some k → v.ownBlock = some k ∨ w.heap.size ≤ k) → K (a.put o.dst v') w') :
    if Region.wanted o (yielded ops a.tmps) = true then Oper.wp Try.prog o a w K Q else E := by
  have hw : Region.wanted o (yielded ops a.tmps) = true := by simp [Region.wanted, hgd]
  obtain ⟨x0, c, rfl, hc⟩ := hrow.src
  by_cases hm0 : m = 0
  · rw [if_pos hw]
    subst hm0
    have hys : ys = [] := List.eq_nil_of_length_eq_zero (by simpa using hl)
    subst hys
    have hsrc : Src Try.prog i.size t (.slice x0 0 c) 0 [] w := by
      cases x0 with
      | none => exact Src.ofNil w h1 c
      | some ad => exact Src.ofSlice w h1 ad 0 c [] (by simp) (fun j u hu => by simp at hu) (fun u hu => by cases hu)
    have hv : ∃ b l k, v = .slice b l k ∧ l ≤ k := by
      rcases hown.2 with ⟨rfl, rfl⟩ | ⟨g, cap, cur, rfl, _, _, hnc, _⟩
      · exact ⟨_, _, _, rfl, Nat.le_refl _⟩
      · exact ⟨_, _, _, rfl, hnc⟩
    obtain ⟨b, l, k, hv, hlk⟩ := hv
    have hrun := run_append_nothing (P := Try.prog) w t t o.type e i h1 h2 b l k hlk _ hsrc
    rw [← hv] at hrun
    unfold Oper.wp
    simp only [execOp, ho, resolve, invoke, builtin, Sem.run_bind, Sem.run_pure, Result.andThen_ok, List.map_toArray, List.map_cons, List.map_nil, hs, hx, hrun]
    exact h v w (by simpa using hown) (World.grownBy.refl w _) (fun k hk => .inl hk)
  · rcases hc with h0 | ⟨ad, rfl, hcell⟩
    · exact absurd h0 hm0
    refine step_append_lies w hgd s x t ho base e i z size bytes h1 h2 h3 h4 h5 h6 h7 v n xs hs hown ad m c ys hx hl hcell h1c (by omega) hm (by omega) hbase _ rfl ?_
    intro g cap w' g1 g2 g3 g4
    refine h _ w' g1 g2 (fun k hk => ?_)
    rcases g3 with g3 | g3
    · exact .inl (by rw [g3]; exact hk)
    · have : k = g := by simp [Value.ownBlock] at hk; exact hk.symm
      exact .inr (by omega)

/-- A block that was laid, as a row of the call's own. -/
theorem own_blk {w : World} {g B z n : Nat} {C : Array Value} {t : TypeId} {xs : List Value} (h : Blk w g C t) (hB : B ≤ g) (hx : C.toList = xs) (hl : xs.length = n * z) (hn : n ≤ maxLen) : w.ownsRow B t z (.slice (some ⟨g, 0, none⟩) n n) n xs := by
  have hs : C.size = n * z := by rw [← Array.length_toList, hx, hl]
  exact ⟨hl, .inr ⟨g, n, C, rfl, hB, h, Nat.le_refl _, hn, hs, by rw [← hx, List.take_of_length_le (by rw [Array.length_toList, hs]; exact Nat.le_refl _)]⟩⟩

theorem infoR' : (Try.prog.info? 54).map (fun i => (i.zero, i.size, i.bytes)) = some (some (.agg #[.string ⟨#[]⟩, .int .i64 0, .int .i64 0, .int .i64 0, .string ⟨#[]⟩]), 5, 56) := by kernel_rfl
theorem infoO : (Try.prog.info? 56).map (fun i => (i.zero, i.size, i.bytes)) = some (some (.agg #[.int .i64 0, .string ⟨#[]⟩]), 2, 24) := by kernel_rfl

end Go.Proofs.Ytcapankhobnfeaa

/- Options and OPT records, plainly: which may be, how they are written, how they are read; there and back. -/
namespace Go.Proofs.Ytcapankhobnfeaa
open Go.RowKit

/-- An option. -/
structure On where
  c : Int
  d : ByteArray
/-- An OPT record, taken apart. -/
structure Ot where
  s : Int
  e : Int
  v : Int
  b : Bool
  z : Int
  os : List On
/-- Options as cells. -/
def oV (o : On) : List Value := [.int .i64 o.c, .string o.d]
def oC (os : List On) : List Value := os.flatMap oV
theorem oC_len (os : List On) : (oC os).length = os.length * 2 := flat_len (f := oV) (z := 2) (fun _ => rfl) os
theorem oC_app (a b : List On) : oC (a ++ b) = oC a ++ oC b := by simp [oC]
theorem oC_one (a : List On) : ∀ u ∈ oC a, u.oneCell' = true := by
  intro u hu
  simp only [oC, List.mem_flatMap] at hu
  obtain ⟨m, _, hu⟩ := hu
  simp [oV] at hu
  rcases hu with rfl | rfl <;> rfl
theorem oC_at {xs : List On} {k : Nat} (hk : k < xs.length) (i : Nat) (hi : i < 2) : (oC xs)[k * 2 + i]? = (oV xs[k])[i]? := flat_get (f := oV) (z := 2) (fun _ => rfl) xs k hk i hi
theorem o_cells {w : World} {g o : Nat} {xs : List On} (hc : ∀ j u, (oC xs)[j]? = some u → w.cell? ⟨g, o + j, none⟩ = some u) {k : Nat} (hk : k < xs.length) :
    w.cell? ⟨g, o + k * 2, none⟩ = some (.int .i64 xs[k].c) ∧ w.cell? ⟨g, o + k * 2 + 1, none⟩ = some (.string xs[k].d) :=
  ⟨hc _ _ (oC_at hk 0 (by decide)), hc _ _ (oC_at hk 1 (by decide))⟩
theorem ints_o (os : List On) : Ints (oC os) 2 0 os.length := fun j hj => ⟨_, by rw [oC_at hj 0 (by decide)]; rfl⟩
/-- How many bytes a text that comes in has at most. -/
def far : Nat := 140737488351232
/-- A row of options: no text is too long. -/
def ORow (w : World) (v : Value) (os : List On) : Prop := Row w v os.length (oC os) ∧ os.length ≤ maxLen ∧ ∀ o ∈ os, o.d.size ≤ far
theorem ORow.below {w w' : World} {v : Value} {os : List On} (h : ORow w v os) (hb : Below w.heap.size w w') : ORow w' v os := ⟨h.1.below hb, h.2⟩
theorem ORow.nil (w : World) : ORow w (.slice none 0 0) [] := ⟨Row.nil _ _, by decide, fun q h => by simp at h⟩
theorem ORow.own {B : Nat} {w : World} {v : Value} {os : List On} (h : w.ownsRow B 56 2 v os.length (oC os)) (h1 : os.length ≤ maxLen) (h2 : ∀ o ∈ os, o.d.size ≤ far) : ORow w v os := ⟨Row.of_own h, h1, h2⟩
theorem orow_lit {w : World} {g : Nat} {o : On} (h : Blk w g (oV o).toArray 56) (hd : o.d.size ≤ far) : ORow w (.slice (some ⟨g, 0, none⟩) 1 1) [o] :=
  ⟨Row.of_blk h (by simp [oC]) 1 1, by show 1 ≤ maxLen; exact small100 (by decide), fun x hx => by simp at hx; subst hx; exact hd⟩
/-- An api.Opt as cells. -/
def optC (o : Ot) (v : Value) : Array Value := #[.int .i64 o.s, .int .i64 o.e, .int .i64 o.v, .bool o.b, .int .i64 o.z, v]
def otZ : Ot := ⟨0, 0, 0, false, 0, []⟩
/-- An api.Rr as cells. -/
def rrC (r : Rc) : Array Value := #[.string r.n, .int .i64 r.t, .int .i64 r.c, .int .i64 r.l, .string r.d]
def rcZ : Rc := ⟨⟨#[]⟩, 0, 0, 0, ⟨#[]⟩⟩

/-- Is x from 0 up, and less than p? -/
def fitO (p x : Int) : Bool := decide (0 ≤ x) && decide (x < p)
theorem fitO_iff {p x : Int} : fitO p x = true ↔ 0 ≤ x ∧ x < p := by unfold fitO; simp

/-- An option's bytes, options' bytes. -/
def oB (o : On) : List UInt8 := [oct o.c 256, oct o.c 1, oct (o.d.size : Int) 256, oct (o.d.size : Int) 1] ++ o.d.data.toList
def osB (os : List On) : List UInt8 := os.flatMap oB
theorem oB_len (o : On) : (oB o).length = 4 + o.d.size := by simp [oB]; omega
theorem osB_nil : osB [] = [] := rfl
theorem osB_cons (o : On) (os : List On) : osB (o :: os) = oB o ++ osB os := by simp [osB]
theorem osB_app (a b : List On) : osB (a ++ b) = osB a ++ osB b := by simp [osB]
theorem osB_take {os : List On} {k : Nat} (h : k < os.length) : osB (os.take (k + 1)) = osB (os.take k) ++ oB os[k] := by
  rw [List.take_succ_eq_append_getElem h, osB_app]; simp [osB]
theorem osB_le (os : List On) (k : Nat) : (osB (os.take k)).length ≤ (osB os).length := by
  have : osB os = osB (os.take k) ++ osB (os.drop k) := by rw [← osB_app, List.take_append_drop]
  rw [this, List.length_append]; omega
theorem osB_ge (os : List On) : 4 * os.length ≤ (osB os).length := by
  induction os with
  | nil => simp
  | cons p ps ih => rw [osB_cons, List.length_append, oB_len, List.length_cons]; omega
theorem osB_each {os : List On} {o : On} (h : o ∈ os) : 4 + o.d.size ≤ (osB os).length := by
  induction os with
  | nil => simp at h
  | cons p ps ih =>
    rw [osB_cons, List.length_append, oB_len]
    rcases List.mem_cons.1 h with rfl | h
    · omega
    · have := ih h; omega

/-- May these options be? -/
def mayOs (os : List On) : Bool := os.all (fun o => fitO 65536 o.c) && decide ((osB os).length ≤ 65535)
theorem mayOs_code {os : List On} {k : Nat} (hk : k < os.length) (h : fitO 65536 os[k].c = false) : mayOs os = false := by
  unfold mayOs
  have : os.all (fun o => fitO 65536 o.c) = false := by
    rw [Bool.eq_false_iff]
    intro h1
    have := List.all_eq_true.1 h1 os[k] (List.getElem_mem hk)
    rw [h] at this
    simp at this
  rw [this, Bool.false_and]
theorem mayOs_long {os : List On} {k : Nat} (h : 65535 < (osB (os.take k)).length) : mayOs os = false := by
  unfold mayOs
  have := osB_le os k
  rw [show decide ((osB os).length ≤ 65535) = false from by simp; omega, Bool.and_false]
theorem mayOs_yes {os : List On} (h : ∀ o ∈ os, fitO 65536 o.c = true) (h2 : (osB os).length ≤ 65535) : mayOs os = true := by
  unfold mayOs
  rw [Bool.and_eq_true]
  exact ⟨List.all_eq_true.2 h, by simpa using h2⟩
theorem mayOs_iff {os : List On} : mayOs os = true ↔ (∀ o ∈ os, fitO 65536 o.c = true) ∧ (osB os).length ≤ 65535 := by
  unfold mayOs
  rw [Bool.and_eq_true, List.all_eq_true, decide_eq_true_eq]
def mayFl (o : Ot) : Bool := fitO 65536 o.s && fitO 256 o.e && fitO 256 o.v && fitO 32768 o.z
def mayOt (o : Ot) : Bool := mayFl o && mayOs o.os
/-- The fields of a Ttl. -/
def ttlO (o : Ot) : Int := o.e * 16777216 + o.v * 65536 + (if o.b then 32768 else 0) + o.z
def rootB : ByteArray := ⟨#[0]⟩
/-- What Put gives. -/
def putO (o : Ot) : Rc := if mayOt o = true then ⟨rootB, 41, o.s, ttlO o, ⟨(osB o.os).toArray⟩⟩ else rcZ
def putE (o : Ot) : Int := if mayOt o = true then 0 else 800

/-- Options out of bytes. -/
def rdF : Nat → List UInt8 → Option (List On)
  | _, [] => some []
  | f + 1, a :: b :: c :: d :: r => if (two c d).toNat ≤ r.length then (rdF f (r.drop (two c d).toNat)).map (fun os => ⟨two a b, ⟨(r.take (two c d).toNat).toArray⟩⟩ :: os) else none
  | _, _ => none
def rdL (l : List UInt8) : Option (List On) := rdF l.length l
theorem rdF_more : ∀ (f : Nat) (l : List UInt8), l.length ≤ f → rdF (f + 1) l = rdF f l := by
  intro f
  induction f with
  | zero =>
    intro l hl
    have : l = [] := List.eq_nil_of_length_eq_zero (by omega)
    subst this
    rfl
  | succ f ih =>
    intro l hl
    match l with
    | [] => rfl
    | [_] => rfl
    | [_, _] => rfl
    | [_, _, _] => rfl
    | a :: b :: c :: d :: r =>
      simp only [List.length_cons] at hl
      show (if (two c d).toNat ≤ r.length then (rdF (f + 1) (r.drop (two c d).toNat)).map _ else none) = (if (two c d).toNat ≤ r.length then (rdF f (r.drop (two c d).toNat)).map _ else none)
      rw [ih _ (by rw [List.length_drop]; omega)]
theorem rdF_eq (l : List UInt8) : ∀ k, rdF (l.length + k) l = rdL l := by
  intro k
  induction k with
  | zero => rfl
  | succ k ih => rw [← Nat.add_assoc, rdF_more _ _ (by omega), ih]
theorem rdL_nil : rdL [] = some [] := rfl
theorem rdL_cons (a b c d : UInt8) (r : List UInt8) : rdL (a :: b :: c :: d :: r) = if (two c d).toNat ≤ r.length then (rdL (r.drop (two c d).toNat)).map (fun os => ⟨two a b, ⟨(r.take (two c d).toNat).toArray⟩⟩ :: os) else none := by
  have h := rdF_eq (r.drop (two c d).toNat) (r.length + 3 - (r.drop (two c d).toNat).length)
  rw [show (r.drop (two c d).toNat).length + (r.length + 3 - (r.drop (two c d).toNat).length) = r.length + 3 from by rw [List.length_drop]; omega] at h
  rw [← h]
  rfl
theorem rdL_short {l : List UInt8} (h0 : l ≠ []) (h : l.length < 4) : rdL l = none := by
  match l, h0, h with
  | [_], _, _ => rfl
  | [_, _], _, _ => rfl
  | [_, _, _], _, _ => rfl
/-- What was read is written as it was. -/
theorem rd_back : ∀ (n : Nat) (l : List UInt8) (os : List On), l.length ≤ n → rdL l = some os → osB os = l ∧ ∀ o ∈ os, fitO 65536 o.c = true := by
  intro n
  induction n with
  | zero =>
    intro l os hl h
    have : l = [] := List.eq_nil_of_length_eq_zero (by omega)
    subst this
    rw [rdL_nil] at h
    simp at h
    subst h
    exact ⟨rfl, fun o ho => by simp at ho⟩
  | succ n ih =>
    intro l os hl h
    match l with
    | [] =>
      rw [rdL_nil] at h
      simp at h
      subst h
      exact ⟨rfl, fun o ho => by simp at ho⟩
    | [a] => rw [rdL_short (by simp) (by simp)] at h; simp at h
    | [a, b] => rw [rdL_short (by simp) (by simp)] at h; simp at h
    | [a, b, c] => rw [rdL_short (by simp) (by simp)] at h; simp at h
    | a :: b :: c :: d :: r =>
      rw [rdL_cons] at h
      split at h
      · rename_i hle
        rw [Option.map_eq_some_iff] at h
        obtain ⟨os', h1, rfl⟩ := h
        obtain ⟨h2, h3⟩ := ih _ _ (by simp at hl ⊢; omega) h1
        have ht := two_lt c d
        refine ⟨?_, fun o ho => ?_⟩
        · rw [osB_cons, h2]
          unfold oB
          have hs : (⟨(r.take (two c d).toNat).toArray⟩ : ByteArray).size = (two c d).toNat := by
            show (r.take (two c d).toNat).toArray.size = _
            simp; omega
          simp only
          rw [hs, Int.toNat_of_nonneg ht.1, (oct_two a b).1, (oct_two a b).2, (oct_two c d).1, (oct_two c d).2]
          simp
        · rcases List.mem_cons.1 ho with rfl | ho
          · have := two_lt a b
            exact fitO_iff.2 ⟨this.1, this.2⟩
          · exact h3 o ho
      · simp at h
/-- What was written is read as it was. -/
theorem two_oct (x : Int) (h : fitO 65536 x = true) : two (oct x 256) (oct x 1) = x := by
  have := fitO_iff.1 h
  rw [two_be]; omega
theorem rd_put : ∀ (os : List On), (∀ o ∈ os, fitO 65536 o.c = true) → (∀ o ∈ os, o.d.size ≤ 65535) → rdL (osB os) = some os := by
  intro os
  induction os with
  | nil => intro _ _; exact rdL_nil
  | cons o os ih =>
    intro h1 h2
    rw [osB_cons]
    unfold oB
    have hz := h2 o (by simp)
    have e2 : two (oct (o.d.size : Int) 256) (oct (o.d.size : Int) 1) = (o.d.size : Int) := two_oct _ (fitO_iff.2 ⟨by omega, by omega⟩)
    have e1 := two_oct o.c (h1 o (by simp))
    have hl : o.d.data.toList.length = o.d.size := data_len o.d
    simp only [List.cons_append, List.nil_append]
    rw [rdL_cons, e2, e1, Int.toNat_natCast, if_pos (by simp), List.drop_append, List.take_append]
    rw [List.drop_of_length_le (by omega), List.take_of_length_le (by omega), hl, Nat.sub_self, List.drop_zero, List.take_zero, List.nil_append, List.append_nil, ih (fun o ho => h1 o (by simp [ho])) (fun o ho => h2 o (by simp [ho])), arr_list]
    rfl

/-- Is it an OPT record, whatever stands in its data? -/
def mayRc (r : Rc) : Bool := decide (r.n = rootB) && (r.t == 41) && fitO 65536 r.c && fitO 4294967296 r.l && decide (r.d.size ≤ 65535)
/-- What Get gives. -/
def splO (r : Rc) (os : List On) : Ot := ⟨r.c, r.l / 16777216, r.l / 65536 % 256, r.l / 32768 % 2 == 1, r.l % 32768, os⟩
def getO (r : Rc) : Ot := if mayRc r = true then (match rdL r.d.data.toList with | some os => splO r os | none => otZ) else otZ
def getE (r : Rc) : Int := if mayRc r = true then (match rdL r.d.data.toList with | some _ => 0 | none => 800) else 800
theorem getO_no {r : Rc} (h : mayRc r = false) : getO r = otZ ∧ getE r = 800 := by unfold getO getE; rw [h]; exact ⟨rfl, rfl⟩
theorem get_none {r : Rc} (h : rdL r.d.data.toList = none) : getO r = otZ ∧ getE r = 800 := by unfold getO getE; rw [h]; simp
theorem get_some {r : Rc} {os : List On} (h : mayRc r = true) (h1 : rdL r.d.data.toList = some os) : getO r = splO r os ∧ getE r = 0 := by unfold getO getE; rw [h, h1]; exact ⟨rfl, rfl⟩
/-- What Find gives. -/
def optL (rs : List Rc) : List Rc := rs.filter (fun r => r.t == 41)
def finO (rs : List Rc) : Ot := match optL rs with | [] => otZ | r :: _ => getO r
def finN (rs : List Rc) : Nat := (optL rs).length

/-- How many options there are at most. -/
theorem rd_len {l : List UInt8} {os : List On} (h : rdL l = some os) : 4 * os.length ≤ l.length ∧ ∀ o ∈ os, 4 + o.d.size ≤ l.length := by
  have := (rd_back l.length l os (Nat.le_refl _) h).1
  exact ⟨by rw [← this]; exact osB_ge os, fun o ho => by rw [← this]; exact osB_each ho⟩
theorem getO_small (r : Rc) : (getO r).os.length ≤ 16384 ∧ ∀ o ∈ (getO r).os, o.d.size ≤ 65535 := by
  unfold getO
  split
  · rename_i hm
    cases h : rdL r.d.data.toList with
    | none => exact ⟨by simp [otZ], fun o ho => by simp [otZ] at ho⟩
    | some os =>
      obtain ⟨h1, h2⟩ := rd_len h
      rw [data_len] at h1 h2
      unfold mayRc at hm
      simp only [Bool.and_eq_true, decide_eq_true_eq] at hm
      exact ⟨by show os.length ≤ _; omega, fun o ho => by have := h2 o ho; omega⟩
  · exact ⟨by simp [otZ], fun o ho => by simp [otZ] at ho⟩
theorem finO_small (rs : List Rc) : (finO rs).os.length ≤ 16384 ∧ ∀ o ∈ (finO rs).os, o.d.size ≤ 65535 := by
  unfold finO
  split
  · exact ⟨by simp [otZ], fun o ho => by simp [otZ] at ho⟩
  · exact getO_small _

/-- There and back. -/
theorem ttl_lt {o : Ot} (h : mayFl o = true) : 0 ≤ ttlO o ∧ ttlO o < 4294967296 := by
  unfold mayFl at h
  simp only [Bool.and_eq_true] at h
  obtain ⟨⟨⟨_, h2⟩, h3⟩, h4⟩ := h
  have := fitO_iff.1 h2
  have := fitO_iff.1 h3
  have := fitO_iff.1 h4
  unfold ttlO
  split <;> omega
theorem put_get {o : Ot} (h : mayOt o = true) : getO (putO o) = o ∧ getE (putO o) = 0 := by
  have h' := h
  unfold mayOt at h'
  rw [Bool.and_eq_true] at h'
  obtain ⟨hf, ho⟩ := h'
  obtain ⟨h1, h2⟩ := mayOs_iff.1 ho
  have ht := ttl_lt hf
  have hp : putO o = ⟨rootB, 41, o.s, ttlO o, ⟨(osB o.os).toArray⟩⟩ := by unfold putO; rw [if_pos h]
  have hf' := hf
  unfold mayFl at hf'
  simp only [Bool.and_eq_true] at hf'
  obtain ⟨⟨⟨f1, f2⟩, f3⟩, f4⟩ := hf'
  have hm : mayRc (putO o) = true := by
    rw [hp]
    unfold mayRc
    simp only [Bool.and_eq_true]
    refine ⟨⟨⟨⟨by simp, by simp⟩, f1⟩, fitO_iff.2 ht⟩, ?_⟩
    rw [decide_eq_true_eq, toArr_size]
    exact h2
  have hr : rdL (putO o).d.data.toList = some o.os := by
    rw [hp]
    exact rd_put o.os h1 (fun x hx => by have := osB_each hx; omega)
  obtain ⟨g1, g2⟩ := get_some hm hr
  refine ⟨?_, g2⟩
  rw [g1, hp]
  have k2 := fitO_iff.1 f2
  have k3 := fitO_iff.1 f3
  have k4 := fitO_iff.1 f4
  obtain ⟨s, e, v, b, z, os⟩ := o
  simp only at k2 k3 k4
  unfold splO ttlO
  simp only
  have e1 : (e * 16777216 + v * 65536 + (if b = true then 32768 else 0) + z) / 16777216 = e := by split <;> omega
  have e2 : (e * 16777216 + v * 65536 + (if b = true then 32768 else 0) + z) / 65536 % 256 = v := by split <;> omega
  have e3 : (e * 16777216 + v * 65536 + (if b = true then 32768 else 0) + z) % 32768 = z := by split <;> omega
  have e4 : ((e * 16777216 + v * 65536 + (if b = true then 32768 else 0) + z) / 32768 % 2 == 1) = b := by
    cases b
    · simp; omega
    · simp; omega
  rw [e1, e2, e3, e4]
theorem get_put {r : Rc} (h : getE r = 0) : mayOt (getO r) = true ∧ putO (getO r) = r := by
  have hm : mayRc r = true := by
    cases hm : mayRc r with
    | true => rfl
    | false => rw [(getO_no hm).2] at h; simp at h
  cases hr : rdL r.d.data.toList with
  | none => rw [(get_none hr).2] at h; simp at h
  | some os =>
    obtain ⟨g1, -⟩ := get_some hm hr
    obtain ⟨b1, b2⟩ := rd_back _ _ _ (Nat.le_refl _) hr
    have hm' := hm
    unfold mayRc at hm'
    simp only [Bool.and_eq_true, decide_eq_true_eq, beq_iff_eq] at hm'
    obtain ⟨⟨⟨⟨m1, m2⟩, m3⟩, m4⟩, m5⟩ := hm'
    have hl := fitO_iff.1 m4
    have ho : mayOt (splO r os) = true := by
      unfold mayOt mayFl splO
      simp only [Bool.and_eq_true]
      refine ⟨⟨⟨⟨m3, fitO_iff.2 ⟨by omega, by omega⟩⟩, fitO_iff.2 ⟨by omega, by omega⟩⟩, fitO_iff.2 ⟨by omega, by omega⟩⟩, mayOs_yes b2 (by rw [b1, data_len]; exact m5)⟩
    rw [g1]
    refine ⟨ho, ?_⟩
    unfold putO
    rw [if_pos ho]
    unfold splO ttlO
    simp only
    rw [b1, arr_list]
    obtain ⟨n, t, c, l, d⟩ := r
    simp only at *
    subst m1 m2
    have hs : l / 16777216 * 16777216 + l / 65536 % 256 * 65536 + (if (l / 32768 % 2 == 1) = true then 32768 else 0) + l % 32768 = l := by
      by_cases hb : l / 32768 % 2 = 1
      · rw [if_pos (by simpa using hb)]; omega
      · rw [if_neg (by simpa using hb)]; omega
    rw [hs]

theorem own_sep {w : World} {B e z n g : Nat} {v : Value} {xs : List Value} {C : Array Value} {t : TypeId} (h : w.ownsRow B e z v n xs) (hb : Blk w g C t) (ht : t ≠ e) : some g ≠ v.ownBlock := by
  intro hk
  rcases h.2 with ⟨h1, _⟩ | ⟨g', cap, cur, h1, _, hg, _⟩
  · rw [h1] at hk; simp [Value.ownBlock] at hk
  · rw [h1] at hk
    simp [Value.ownBlock] at hk
    subst hk
    unfold Blk at hb
    rw [hg] at hb
    simp at hb
    exact ht hb.2.symm
/-- Six cells of an api.Opt. -/
theorem Blk.six {w : World} {g : Nat} {o : Ot} {v : Value} {t : TypeId} (k : Blk w g (optC o v) t) :
    w.cell? ⟨g, 0, none⟩ = some (.int .i64 o.s) ∧ w.cell? ⟨g, 1, none⟩ = some (.int .i64 o.e) ∧ w.cell? ⟨g, 2, none⟩ = some (.int .i64 o.v) ∧ w.cell? ⟨g, 3, none⟩ = some (.bool o.b) ∧ w.cell? ⟨g, 4, none⟩ = some (.int .i64 o.z) ∧ w.cell? ⟨g, 5, none⟩ = some v :=
  ⟨k.cell 0, k.cell 1, k.cell 2, k.cell 3, k.cell 4, k.cell 5⟩
theorem Blk.open6 {w : World} {g : Nat} {C : Array Value} {t : TypeId} (k : Blk w g C t) :
    w.frozen? ⟨g, 0, none⟩ = false ∧ w.frozen? ⟨g, 1, none⟩ = false ∧ w.frozen? ⟨g, 2, none⟩ = false ∧ w.frozen? ⟨g, 3, none⟩ = false ∧ w.frozen? ⟨g, 4, none⟩ = false ∧ w.frozen? ⟨g, 5, none⟩ = false :=
  ⟨k.frozen 0, k.frozen 1, k.frozen 2, k.frozen 3, k.frozen 4, k.frozen 5⟩
/-- Six cells are stored. -/
def set6 (w : World) (g : Nat) (o : Ot) (v : Value) : World :=
  (((((w.setCell ⟨g, 0, none⟩ (.int .i64 o.s)).setCell ⟨g, 1, none⟩ (.int .i64 o.e)).setCell ⟨g, 2, none⟩ (.int .i64 o.v)).setCell ⟨g, 3, none⟩ (.bool o.b)).setCell ⟨g, 4, none⟩ (.int .i64 o.z)).setCell ⟨g, 5, none⟩ v
theorem set6_blk {w : World} {g : Nat} {o o' : Ot} {v v' : Value} {t : TypeId} (k : Blk w g (optC o' v') t) : Blk (set6 w g o v) g (optC o v) t := by
  have k0 : Blk _ g (optC ⟨o.s, o'.e, o'.v, o'.b, o'.z, []⟩ v') t := k.set 0 (.int .i64 o.s)
  have k1 : Blk _ g (optC ⟨o.s, o.e, o'.v, o'.b, o'.z, []⟩ v') t := k0.set 1 (.int .i64 o.e)
  have k2 : Blk _ g (optC ⟨o.s, o.e, o.v, o'.b, o'.z, []⟩ v') t := k1.set 2 (.int .i64 o.v)
  have k3 : Blk _ g (optC ⟨o.s, o.e, o.v, o.b, o'.z, []⟩ v') t := k2.set 3 (.bool o.b)
  have k4 : Blk _ g (optC ⟨o.s, o.e, o.v, o.b, o.z, []⟩ v') t := k3.set 4 (.int .i64 o.z)
  have k5 : Blk _ g (optC o v) t := k4.set 5 v
  exact k5
theorem set6_turn (w : World) (g : Nat) (o : Ot) (v : Value) : Turn (fun k => k = g) w (set6 w g o v) := by
  have T : ∀ (u : World) (i : Nat) (v : Value), Turn (fun k => k = g) u (u.setCell ⟨g, i, none⟩ v) := fun u i v => Turn.of_set (S := fun k => k = g) u (p := ⟨g, i, none⟩) rfl v
  unfold set6
  exact (((((T _ _ _).same (T _ _ _)).same (T _ _ _)).same (T _ _ _)).same (T _ _ _)).same (T _ _ _)
theorem set6_below {B : Nat} {w a : World} (h : Below B w a) {g : Nat} (hg : B ≤ g) (ha : B ≤ a.heap.size) (o : Ot) (v : Value) : Below B w (set6 a g o v) :=
  Turn.below h (set6_turn a g o v) ha (fun i e => by subst e; exact hg)
theorem Blk.six' {w : World} {g : Nat} {a b c d e f : Value} {t : TypeId} (k : Blk w g #[a, b, c, d, e, f] t) :
    w.cell? ⟨g, 0, none⟩ = some a ∧ w.cell? ⟨g, 1, none⟩ = some b ∧ w.cell? ⟨g, 2, none⟩ = some c ∧ w.cell? ⟨g, 3, none⟩ = some d ∧ w.cell? ⟨g, 4, none⟩ = some e ∧ w.cell? ⟨g, 5, none⟩ = some f :=
  ⟨k.cell 0, k.cell 1, k.cell 2, k.cell 3, k.cell 4, k.cell 5⟩
theorem Blk.five' {w : World} {g : Nat} {a b c d e : Value} {t : TypeId} (k : Blk w g #[a, b, c, d, e] t) :
    w.cell? ⟨g, 0, none⟩ = some a ∧ w.cell? ⟨g, 1, none⟩ = some b ∧ w.cell? ⟨g, 2, none⟩ = some c ∧ w.cell? ⟨g, 3, none⟩ = some d ∧ w.cell? ⟨g, 4, none⟩ = some e :=
  ⟨k.cell 0, k.cell 1, k.cell 2, k.cell 3, k.cell 4⟩
/-- Five cells of an api.Rr. -/
theorem Blk.five {w : World} {g : Nat} {r : Rc} {t : TypeId} (k : Blk w g (rrC r) t) :
    w.cell? ⟨g, 0, none⟩ = some (.string r.n) ∧ w.cell? ⟨g, 1, none⟩ = some (.int .i64 r.t) ∧ w.cell? ⟨g, 2, none⟩ = some (.int .i64 r.c) ∧ w.cell? ⟨g, 3, none⟩ = some (.int .i64 r.l) ∧ w.cell? ⟨g, 4, none⟩ = some (.string r.d) :=
  ⟨k.cell 0, k.cell 1, k.cell 2, k.cell 3, k.cell 4⟩
theorem Blk.open5 {w : World} {g : Nat} {C : Array Value} {t : TypeId} (k : Blk w g C t) :
    w.frozen? ⟨g, 0, none⟩ = false ∧ w.frozen? ⟨g, 1, none⟩ = false ∧ w.frozen? ⟨g, 2, none⟩ = false ∧ w.frozen? ⟨g, 3, none⟩ = false ∧ w.frozen? ⟨g, 4, none⟩ = false :=
  ⟨k.frozen 0, k.frozen 1, k.frozen 2, k.frozen 3, k.frozen 4⟩
def set5 (w : World) (g : Nat) (r : Rc) : World :=
  ((((w.setCell ⟨g, 0, none⟩ (.string r.n)).setCell ⟨g, 1, none⟩ (.int .i64 r.t)).setCell ⟨g, 2, none⟩ (.int .i64 r.c)).setCell ⟨g, 3, none⟩ (.int .i64 r.l)).setCell ⟨g, 4, none⟩ (.string r.d)
theorem set5_blk {w : World} {g : Nat} {r r' : Rc} {t : TypeId} (k : Blk w g (rrC r') t) : Blk (set5 w g r) g (rrC r) t := by
  have k0 : Blk _ g (rrC ⟨r.n, r'.t, r'.c, r'.l, r'.d⟩) t := k.set 0 (.string r.n)
  have k1 : Blk _ g (rrC ⟨r.n, r.t, r'.c, r'.l, r'.d⟩) t := k0.set 1 (.int .i64 r.t)
  have k2 : Blk _ g (rrC ⟨r.n, r.t, r.c, r'.l, r'.d⟩) t := k1.set 2 (.int .i64 r.c)
  have k3 : Blk _ g (rrC ⟨r.n, r.t, r.c, r.l, r'.d⟩) t := k2.set 3 (.int .i64 r.l)
  have k4 : Blk _ g (rrC r) t := k3.set 4 (.string r.d)
  exact k4
theorem set5_turn (w : World) (g : Nat) (r : Rc) : Turn (fun k => k = g) w (set5 w g r) := by
  have T : ∀ (u : World) (i : Nat) (v : Value), Turn (fun k => k = g) u (u.setCell ⟨g, i, none⟩ v) := fun u i v => Turn.of_set (S := fun k => k = g) u (p := ⟨g, i, none⟩) rfl v
  unfold set5
  exact ((((T _ _ _).same (T _ _ _)).same (T _ _ _)).same (T _ _ _)).same (T _ _ _)
theorem set5_below {B : Nat} {w a : World} (h : Below B w a) {g : Nat} (hg : B ≤ g) (ha : B ≤ a.heap.size) (r : Rc) : Below B w (set5 a g r) :=
  Turn.below h (set5_turn a g r) ha (fun i e => by subst e; exact hg)

end Go.Proofs.Ytcapankhobnfeaa

/- Messages with an OPT behind them, plainly: what is written, and how long it is. -/
namespace Go.Proofs.Ytcapankhobnfeaa
open Go.RowKit
open Pl

theorem stR_as (B : List UInt8) (ms : Marks) (s : ByteArray) : stR (B, ms) s = if B.length + s.size ≤ 4096 then some (B ++ s.data.toList, ms) else none := by
  unfold stR rawE rawB
  by_cases h : B.length + s.size ≤ 4096
  · simp [h]
  · simp [h]
theorem stN_as {n : ByteArray} (hn : isName n.data.toList = true) (B : List UInt8) (ms : Marks) : stN (B, ms) n = if B.length + sizW ms n.data.toList ≤ 4096 then some (outW B ms n.data.toList, marW B ms n.data.toList) else none := by
  unfold stN
  by_cases h : B.length + sizW ms n.data.toList ≤ 4096
  · obtain ⟨a, b, c⟩ := nam_yes (B := B) (ms := ms) hn h
    simp only
    rw [a, b, c, if_pos rfl, if_pos h]
  · obtain ⟨a, _, _⟩ := nam_long (B := B) (ms := ms) hn h
    simp only
    rw [a, if_neg h]
    rfl
/-- What is written hangs on how many bytes are ahead, not on which. -/
theorem alike_N {n : ByteArray} (hn : isName n.data.toList = true) (k : Nat) (ms : Marks) : (∀ B : List UInt8, B.length = k → stN (B, ms) n = none) ∨ ∃ e ms', ∀ B : List UInt8, B.length = k → stN (B, ms) n = some (B ++ e, ms') := by
  by_cases h : k + sizW ms n.data.toList ≤ 4096
  · exact .inr ⟨n.data.toList.take (splN ms n.data.toList).1 ++ (splN ms n.data.toList).2, ms ++ newM k n.data.toList (splN ms n.data.toList).1, fun B hB => by
      rw [stN_as hn, hB, if_pos h]
      unfold outW marW
      rw [hB]⟩
  · exact .inl fun B hB => by rw [stN_as hn, hB, if_neg h]
theorem alike_NR {n : ByteArray} (hn : isName n.data.toList = true) (s : ByteArray) (k : Nat) (ms : Marks) : (∀ B : List UInt8, B.length = k → ((stN (B, ms) n).bind fun a => stR a s) = none) ∨ ∃ e ms', ∀ B : List UInt8, B.length = k → ((stN (B, ms) n).bind fun a => stR a s) = some (B ++ e, ms') := by
  rcases alike_N hn k ms with h | ⟨e, ms', h⟩
  · exact .inl fun B hB => by rw [h B hB]; rfl
  · by_cases hf : k + e.length + s.size ≤ 4096
    · exact .inr ⟨e ++ s.data.toList, ms', fun B hB => by
        rw [h B hB, Option.bind_some, stR_as, if_pos (by rw [List.length_append, hB]; exact hf), List.append_assoc]⟩
    · exact .inl fun B hB => by
        rw [h B hB, Option.bind_some, stR_as, if_neg (by rw [List.length_append, hB]; exact hf)]
theorem alike_all {α : Type} {p : α → Bool} {f : St → α → Option St} (H : ∀ (x : α), p x = true → ∀ (k : Nat) (ms : Marks), (∀ B : List UInt8, B.length = k → f (B, ms) x = none) ∨ ∃ e ms', ∀ B : List UInt8, B.length = k → f (B, ms) x = some (B ++ e, ms')) :
    ∀ (xs : List α), xs.all p = true → ∀ (k : Nat) (ms : Marks), (∀ B : List UInt8, B.length = k → stAll f (some (B, ms)) xs = none) ∨ ∃ e ms', ∀ B : List UInt8, B.length = k → stAll f (some (B, ms)) xs = some (B ++ e, ms') := by
  intro xs
  induction xs with
  | nil => intro _ k ms; exact .inr ⟨[], ms, fun B _ => by rw [List.append_nil]; rfl⟩
  | cons x xs ih =>
    intro hp k ms
    simp only [List.all_cons, Bool.and_eq_true] at hp
    rcases H x hp.1 k ms with h | ⟨e, ms1, h⟩
    · exact .inl fun B hB => by rw [stAll_cons, Option.bind_some, h B hB, stAll_none]
    · rcases ih hp.2 (k + e.length) ms1 with h2 | ⟨e2, ms2, h2⟩
      · exact .inl fun B hB => by rw [stAll_cons, Option.bind_some, h B hB, h2 _ (by rw [List.length_append, hB])]
      · exact .inr ⟨e ++ e2, ms2, fun B hB => by rw [stAll_cons, Option.bind_some, h B hB, h2 _ (by rw [List.length_append, hB]), List.append_assoc]⟩
theorem alike_Q (x : Qn) (hx : mayQ x = true) (k : Nat) (ms : Marks) : (∀ B : List UInt8, B.length = k → stQ (B, ms) x = none) ∨ ∃ e ms', ∀ B : List UInt8, B.length = k → stQ (B, ms) x = some (B ++ e, ms') := by
  unfold mayQ at hx
  simp only [Bool.and_eq_true] at hx
  exact alike_NR hx.1.1 (qB x) k ms
theorem alike_C (x : Rc) (hx : mayR x = true) (k : Nat) (ms : Marks) : (∀ B : List UInt8, B.length = k → stC (B, ms) x = none) ∨ ∃ e ms', ∀ B : List UInt8, B.length = k → stC (B, ms) x = some (B ++ e, ms') := by
  unfold mayR at hx
  simp only [Bool.and_eq_true] at hx
  exact alike_NR hx.1.1.1 (rB x ++ x.d) k ms
/-- The four parts behind a header. -/
def bodyS (B : List UInt8) (qs : List Qn) (an ns ar : List Rc) : Option St := stAll stC (stAll stC (stAll stC (stAll stQ (some (B, [])) qs) an) ns) ar
theorem put_body (m : Ms) : putSt m = bodyS (headS m).data.toList m.qs m.an m.ns m.ar := rfl
theorem alike_body {qs : List Qn} {an ns ar : List Rc} (h0 : qs.all mayQ = true) (h1 : an.all mayR = true) (h2 : ns.all mayR = true) (h3 : ar.all mayR = true) (k : Nat) :
    (∀ B : List UInt8, B.length = k → bodyS B qs an ns ar = none) ∨ ∃ e ms', ∀ B : List UInt8, B.length = k → bodyS B qs an ns ar = some (B ++ e, ms') := by
  unfold bodyS
  rcases alike_all alike_Q qs h0 k [] with g | ⟨e0, m0, g0⟩
  · exact .inl fun B hB => by rw [g B hB, stAll_none, stAll_none, stAll_none]
  rcases alike_all alike_C an h1 (k + e0.length) m0 with g | ⟨e1, m1, g1⟩
  · exact .inl fun B hB => by rw [g0 B hB, g _ (by rw [List.length_append, hB]), stAll_none, stAll_none]
  rcases alike_all alike_C ns h2 (k + e0.length + e1.length) m1 with g | ⟨e2, m2, g2⟩
  · exact .inl fun B hB => by rw [g0 B hB, g1 _ (by rw [List.length_append, hB]), g _ (by rw [List.length_append, List.length_append, hB]), stAll_none]
  rcases alike_all alike_C ar h3 (k + e0.length + e1.length + e2.length) m2 with g | ⟨e3, m3, g3⟩
  · exact .inl fun B hB => by rw [g0 B hB, g1 _ (by rw [List.length_append, hB]), g2 _ (by rw [List.length_append, List.length_append, hB]), g _ (by rw [List.length_append, List.length_append, List.length_append, hB])]
  · exact .inr ⟨e0 ++ e1 ++ e2 ++ e3, m3, fun B hB => by
      rw [g0 B hB, g1 _ (by rw [List.length_append, hB]), g2 _ (by rw [List.length_append, List.length_append, hB]), g3 _ (by rw [List.length_append, List.length_append, List.length_append, hB])]
      simp only [List.append_assoc]⟩

/-- A record of the root's name, written. -/
theorem stC_root (B : List UInt8) (ms : Marks) (r : Rc) (hr : r.n = rootB) : stC (B, ms) r = if B.length + 11 + r.d.size ≤ 4096 then some (B ++ [0] ++ (rB r ++ r.d).data.toList, ms) else none := by
  have hz : (rB r ++ r.d).size = 10 + r.d.size := by
    unfold rB
    simp only [ByteArray.size_append, size2]
    rw [show (be4 r.l).size = 4 from rfl]
  have hn : r.n.data.toList = [0] := by rw [hr]; rfl
  have hi : isName r.n.data.toList = true := by rw [hn]; decide
  unfold stC
  by_cases h1 : B.length + 1 ≤ 4096
  · obtain ⟨a, b, c⟩ := nam_root (B := B) (ms := ms) h1
    have e1 : stN (B, ms) r.n = some (B ++ [0], ms) := by
      unfold stN
      rw [hn]
      simp only
      rw [a, b, c, if_pos rfl]
    rw [e1, Option.bind_some, stR_as, hz, List.length_append, show ([0] : List UInt8).length = 1 from rfl]
    by_cases h2 : B.length + 11 + r.d.size ≤ 4096
    · rw [if_pos h2, if_pos (by omega)]
    · rw [if_neg h2, if_neg (by omega)]
  · have e1 : stN (B, ms) r.n = none := by
      rw [stN_as hi, if_neg]
      have hs : 1 ≤ sizW ms r.n.data.toList := by
        rw [hn]
        have : splN ms [0] = (0, [0]) := rfl
        unfold sizW
        rw [this]
        decide
      omega
    rw [e1, if_neg (by omega)]
    rfl

/-- What an OPT of Payload with these options is. -/
def ot (os : List On) : Ot := ⟨1232, 0, 0, false, 0, os⟩
/-- A message with one behind its additionals. -/
def withO (m : Ms) (os : List On) : Ms := ⟨m.h, m.qs, m.an, m.ns, m.ar ++ [putO (ot os)]⟩
/-- One option of padding. -/
def pdO (k : Nat) : List On := [⟨12, zerosB k⟩]
theorem ot_ttl (os : List On) : ttlO (ot os) = 0 := rfl
theorem ot_nil : putO (ot []) = ⟨rootB, 41, 1232, 0, ⟨#[]⟩⟩ := rfl
theorem osB_pd (k : Nat) : (osB (pdO k)).length = 4 + k := by
  unfold pdO
  rw [osB_cons, osB_nil, List.append_nil, oB_len, zerosB_size]
theorem may_pd {k : Nat} (hk : k ≤ 60000) : mayOt (ot (pdO k)) = true := by
  unfold mayOt
  rw [show mayFl (ot (pdO k)) = true from rfl, mayOs_yes (fun o ho => by simp [ot, pdO] at ho; subst ho; rfl) (by show (osB (pdO k)).length ≤ _; rw [osB_pd]; omega)]
  rfl
theorem ot_pd {k : Nat} (hk : k ≤ 60000) : putO (ot (pdO k)) = ⟨rootB, 41, 1232, 0, ⟨(osB (pdO k)).toArray⟩⟩ := by
  unfold putO
  rw [if_pos (may_pd hk)]
  rfl
theorem bytes_size (l : List UInt8) : (⟨l.toArray⟩ : ByteArray).size = l.length := by rw [← data_len]
/-- What a message may be with an OPT, and how long it is. -/
theorem opt_may {d : ByteArray} (hd : d.size ≤ 65535) : mayR ⟨rootB, 41, 1232, 0, d⟩ = true := by
  unfold mayR
  simp only
  rw [may_o (by unfold Other; omega), data_len]
  have : decide (d.size ≤ 65535) = true := by simpa using hd
  rw [this]
  decide
theorem with_may {m : Ms} {r : Rc} (hm : mayM m = true) (ha : m.ar.length < 64) (hr : mayR r = true) : mayM ⟨m.h, m.qs, m.an, m.ns, m.ar ++ [r]⟩ = true := by
  unfold mayM at hm ⊢
  simp only [Bool.and_eq_true] at hm ⊢
  obtain ⟨hh, ⟨⟨h0, h1⟩, h2⟩, h3⟩ := hm
  refine ⟨hh, ⟨⟨h0, h1⟩, h2⟩, ?_⟩
  have f3 := few_iff h3
  unfold few
  rw [List.length_append, List.all_append, f3.2]
  simp [hr]
  omega
theorem with_put {m : Ms} {st : St} {r : Rc} (hm : mayM m = true) (hp : putSt m = some st) (hr : r.n = rootB) :
    (st.1.length + 11 + r.d.size ≤ 4096 → ∃ st', putSt ⟨m.h, m.qs, m.an, m.ns, m.ar ++ [r]⟩ = some st' ∧ st'.1.length = st.1.length + 11 + r.d.size) ∧ (¬ st.1.length + 11 + r.d.size ≤ 4096 → putSt ⟨m.h, m.qs, m.an, m.ns, m.ar ++ [r]⟩ = none) := by
  unfold mayM at hm
  simp only [Bool.and_eq_true] at hm
  obtain ⟨hh, ⟨⟨h0, h1⟩, h2⟩, h3⟩ := hm
  have hl := headS_len m
  have hl2 := headS_len ⟨m.h, m.qs, m.an, m.ns, m.ar ++ [r]⟩
  rw [put_body] at hp
  have hz : (rB r ++ r.d).size = 10 + r.d.size := by
    unfold rB
    simp only [ByteArray.size_append, size2]
    rw [show (be4 r.l).size = 4 from rfl]
  rcases alike_body (few_iff h0).2 (few_iff h1).2 (few_iff h2).2 (few_iff h3).2 12 with g | ⟨e, ms', g⟩
  · rw [g _ hl] at hp; simp at hp
  · rw [g _ hl] at hp
    simp only [Option.some.injEq] at hp
    subst hp
    have e1 : putSt ⟨m.h, m.qs, m.an, m.ns, m.ar ++ [r]⟩ = stC ((headS ⟨m.h, m.qs, m.an, m.ns, m.ar ++ [r]⟩).data.toList ++ e, ms') r := by
      rw [put_body]
      show bodyS _ m.qs m.an m.ns (m.ar ++ [r]) = _
      have : ∀ B, bodyS B m.qs m.an m.ns (m.ar ++ [r]) = stAll stC (bodyS B m.qs m.an m.ns m.ar) [r] := fun B => stAll_app _ _ _ _
      rw [this, g _ hl2]
      rfl
    rw [e1, stC_root _ _ _ hr]
    simp only [List.length_append, hl, hl2]
    constructor
    · intro h
      rw [if_pos h]
      exact ⟨_, rfl, by simp only [List.length_append, hl2, data_len, hz, List.length_singleton]; omega⟩
    · intro h
      rw [if_neg h]
/-- What is left of a message that is cut. -/
def cutM (m : Ms) : Ms := ⟨⟨m.h.id, m.h.qr, m.h.op, m.h.aa, true, m.h.rd, m.h.ra, m.h.z, m.h.rc⟩, m.qs, [], [], []⟩
theorem cut_may {m : Ms} (hm : mayM m = true) : mayM (cutM m) = true := by
  unfold mayM at hm ⊢
  simp only [Bool.and_eq_true] at hm ⊢
  obtain ⟨hh, ⟨⟨h0, _⟩, _⟩, _⟩ := hm
  exact ⟨hh, ⟨⟨h0, rfl⟩, rfl⟩, rfl⟩
theorem cut_put {m : Ms} {st : St} (hm : mayM m = true) (hp : putSt m = some st) : ∃ st', putSt (cutM m) = some st' ∧ st'.1.length ≤ st.1.length := by
  have hc := cut_may hm
  unfold mayM at hm
  simp only [Bool.and_eq_true] at hm
  obtain ⟨hh, ⟨⟨h0, h1⟩, h2⟩, h3⟩ := hm
  have hl := headS_len m
  have hl2 := headS_len (cutM m)
  rw [put_body] at hp ⊢
  unfold bodyS at hp ⊢
  rcases alike_all alike_Q m.qs (few_iff h0).2 12 [] with g | ⟨e0, m0, g0⟩
  · rw [g _ hl, stAll_none, stAll_none, stAll_none] at hp; simp at hp
  · refine ⟨((headS (cutM m)).data.toList ++ e0, m0), g0 _ hl2, ?_⟩
    rw [g0 _ hl] at hp
    have hlen : ∀ (xs : List Rc) (a b : St), xs.all mayR = true → stAll stC (some a) xs = some b → a.1.length ≤ b.1.length := by
      intro xs a b hx h
      rcases alike_all alike_C xs hx a.1.length a.2 with g | ⟨e, ms', g⟩
      · rw [show a = (a.1, a.2) from rfl, g _ rfl] at h; simp at h
      · rw [show a = (a.1, a.2) from rfl, g _ rfl] at h
        simp only [Option.some.injEq] at h
        subst h
        simp
    cases a1 : stAll stC (some ((headS m).data.toList ++ e0, m0)) m.an with
    | none => rw [a1, stAll_none, stAll_none] at hp; simp at hp
    | some s1 =>
      rw [a1] at hp
      cases a2 : stAll stC (some s1) m.ns with
      | none => rw [a2, stAll_none] at hp; simp at hp
      | some s2 =>
        rw [a2] at hp
        have k1 := hlen _ _ _ (few_iff h1).2 a1
        have k2 := hlen _ _ _ (few_iff h2).2 a2
        have k3 := hlen _ _ _ (few_iff h3).2 hp
        simp only [List.length_append, hl, hl2] at k1 ⊢
        omega

end Go.Proofs.Ytcapankhobnfeaa

/- What Room of package pad gives. -/
namespace Go.Proofs.Ytcapankhobnfeaa
open Go.RowKit

/-- The least room. -/
def roomI (s b : Int) : Int := if s < 0 ∨ b < 1 then 0 else (b - (s + 4) % b) % b
theorem room_none {s b : Int} (h : s < 0 ∨ b < 1) : roomI s b = 0 := by unfold roomI; rw [if_pos h]
theorem room_some {s b : Int} (h : 0 ≤ s) (hb : 1 ≤ b) : roomI s b = (b - (s + 4) % b) % b := by unfold roomI; rw [if_neg (by omega)]
theorem room_lt {s b : Int} (hb : 1 ≤ b) : 0 ≤ roomI s b ∧ roomI s b < b := by
  unfold roomI
  split
  · omega
  · exact ⟨Int.emod_nonneg _ (by omega), Int.emod_lt_of_pos _ (by omega)⟩
theorem room_mod {s b : Int} (h : 0 ≤ s) (hb : 1 ≤ b) : (s + 4 + roomI s b) % b = 0 := by
  rw [room_some h hb, Int.add_emod, Int.emod_emod_of_dvd _ (Int.dvd_refl b), ← Int.add_emod, show s + 4 + (b - (s + 4) % b) = b + ((s + 4) - (s + 4) % b) from by omega, Int.add_emod_left]
  exact Int.emod_eq_zero_of_dvd Int.dvd_self_sub_emod

theorem pdRoom_any (s b : Int) (w : World) (hs : s ≤ 9223372036854775807) (hb : b ≤ 9223372036854775807) :
    Calls Try.prog 16 #[.int .i64 s, .int .i64 b] w fun e w' => e = .returned (.int .i64 (roomI s b)) ∧ w' = w := by
  obtain ⟨R, hR⟩ : ∃ R, R = roomI s b := ⟨_, rfl⟩
  have HR : Hid (R = roomI s b) := hR
  rw [← hR]
  clear hR
  by_cases h1 : s < 0
  · have HE : Hid (R = 0) := by unfold Hid; rw [HR.out, room_none (.inl h1)]
    go_enter Try.func16, Try.ntmps16
    go_wp2
    go_ret
    exact ⟨by rw [HE.out]; rfl, rfl⟩
  · by_cases h2 : b < 1
    · have HE : Hid (R = 0) := by unfold Hid; rw [HR.out, room_none (.inr h2)]
      go_enter Try.func16, Try.ntmps16
      go_wp2
      go_ret
      exact ⟨by rw [HE.out]; rfl, rfl⟩
    · have HE : Hid (R = (b - (s + 4) % b) % b) := by unfold Hid; rw [HR.out, room_some (by omega) (by omega)]
      go_enter Try.func16, Try.ntmps16
      go_wp2
      have E : wrap64 ((IntKind.u64.wrap (b - (s + 4) % b)).tmod b) = R := by
        rw [HE.out]
        have h3 := Int.emod_nonneg (s + 4) (b := b) (by omega)
        have h4 := Int.emod_lt_of_pos (s + 4) (b := b) (by omega)
        obtain ⟨r, hr⟩ : ∃ r, r = (s + 4) % b := ⟨_, rfl⟩
        rw [← hr] at h3 h4 ⊢
        have e1 : IntKind.u64.wrap (b - r) = b - r := by rw [IntKind.wrap_u64]; omega
        rw [e1, Int.tmod_eq_emod_of_nonneg (by omega)]
        have h5 := Int.emod_nonneg (b - r) (b := b) (by omega)
        have h6 := Int.emod_lt_of_pos (b - r) (b := b) (by omega)
        unfold wrap64
        omega
      go_ret
      exact ⟨ret_int E, rfl⟩

end Go.Proofs.Ytcapankhobnfeaa

/- What fits, field, join, split, mayFields and mayRecord of package opt give. -/
namespace Go.Proofs.Ytcapankhobnfeaa
open Go.RowKit

theorem wraps_u32 (n : Int) (h₀ : 0 ≤ n) (h₁ : n < 2 ^ 32) : IntKind.u32.wrap n = n := by rw [IntKind.wrap_u32]; omega
theorem u32_mask (x : Int) (j : Nat) (P m : Int) (hP : P = ((2 ^ j : Nat) : Int)) (hm : m = P - 1) (hj : j ≤ 16) (h : 0 ≤ x ∧ x < 4294967296) : bits .and .u32 x m = x % P := by
  have := bits_mask .u32 32 (by decide) wraps_u32 j (by omega) x h.1 (by omega)
  rw [hm, hP, Int.natCast_pow]
  exact this

theorem fitsO_any (x p : Int) (n : Int) (w : World) (h : (n = 16 ∧ p = 65536) ∨ (n = 8 ∧ p = 256) ∨ (n = 15 ∧ p = 32768) ∨ (n = 32 ∧ p = 4294967296)) :
    Calls Try.prog 100 #[.int .i64 x, .int .u64 n] w fun e w' => e = .returned (.bool (fitO p x)) ∧ w' = w := by
  by_cases h0 : 0 ≤ x
  · by_cases h1 : x < p
    · rw [fitO_iff.2 ⟨h0, h1⟩]
      rcases h with ⟨rfl, rfl⟩ | ⟨rfl, rfl⟩ | ⟨rfl, rfl⟩ | ⟨rfl, rfl⟩
      all_goals
        go_enter Try.func100, Try.ntmps100
        go_wp2
        go_ret
        exact ⟨rfl, rfl⟩
    · rw [show fitO p x = false from by unfold fitO; simp; omega]
      have h2 : decide (x < p) = false := by simpa using h1
      clear h1
      rcases h with ⟨rfl, rfl⟩ | ⟨rfl, rfl⟩ | ⟨rfl, rfl⟩ | ⟨rfl, rfl⟩
      all_goals
        go_enter Try.func100, Try.ntmps100
        go_wp2
        go_ret
        exact ⟨rfl, rfl⟩
  · rw [show fitO p x = false from by unfold fitO; simp; omega]
    have h2 : decide (0 ≤ x) = false := by simpa using h0
    clear h0 h
    go_enter Try.func100, Try.ntmps100
    go_wp2
    go_ret
    exact ⟨rfl, rfl⟩
theorem fitsO_as (x p n : Int) (b : Bool) (w : World) (hb : fitO p x = b) (h : (n = 16 ∧ p = 65536) ∨ (n = 8 ∧ p = 256) ∨ (n = 15 ∧ p = 32768) ∨ (n = 32 ∧ p = 4294967296)) :
    Calls Try.prog 100 #[.int .i64 x, .int .u64 n] w fun e w' => e = .returned (.bool b) ∧ w' = w := hb ▸ fitsO_any x p n w h
theorem fit16 (x : Int) (b : Bool) (w : World) (hb : fitO 65536 x = b) : Calls Try.prog 100 #[.int .i64 x, .int .u64 16] w fun e w' => e = .returned (.bool b) ∧ w' = w := fitsO_as x _ _ b w hb (.inl ⟨rfl, rfl⟩)
theorem fit8 (x : Int) (b : Bool) (w : World) (hb : fitO 256 x = b) : Calls Try.prog 100 #[.int .i64 x, .int .u64 8] w fun e w' => e = .returned (.bool b) ∧ w' = w := fitsO_as x _ _ b w hb (.inr (.inl ⟨rfl, rfl⟩))
theorem fit15 (x : Int) (b : Bool) (w : World) (hb : fitO 32768 x = b) : Calls Try.prog 100 #[.int .i64 x, .int .u64 15] w fun e w' => e = .returned (.bool b) ∧ w' = w := fitsO_as x _ _ b w hb (.inr (.inr (.inl ⟨rfl, rfl⟩)))
theorem fit32 (x : Int) (b : Bool) (w : World) (hb : fitO 4294967296 x = b) : Calls Try.prog 100 #[.int .i64 x, .int .u64 32] w fun e w' => e = .returned (.bool b) ∧ w' = w := fitsO_as x _ _ b w hb (.inr (.inr (.inr ⟨rfl, rfl⟩)))

set_option maxRecDepth 20000 in
theorem mayFields_any (o : Ot) (v : Value) (w : World) :
    Calls Try.prog 85 #[.agg (optC o v)] w fun e w' => e = .returned (.bool (mayFl o)) ∧ Below w.heap.size w w' := by
  obtain ⟨s, e, vv, b, z, os⟩ := o
  obtain ⟨b1, h1⟩ : ∃ b, fitO 65536 s = b := ⟨_, rfl⟩
  obtain ⟨b2, h2⟩ : ∃ b, fitO 256 e = b := ⟨_, rfl⟩
  obtain ⟨b3, h3⟩ : ∃ b, fitO 256 vv = b := ⟨_, rfl⟩
  obtain ⟨b4, h4⟩ : ∃ b, fitO 32768 z = b := ⟨_, rfl⟩
  have HR : Hid (mayFl ⟨s, e, vv, b, z, os⟩ = (b1 && b2 && b3 && b4)) := by unfold Hid mayFl; rw [h1, h2, h3, h4]
  have k1 := fun u => fit16 s b1 u h1
  have k2 := fun u => fit8 e b2 u h2
  have k3 := fun u => fit8 vv b3 u h3
  have k4 := fun u => fit15 z b4 u h4
  have hb : Below w.heap.size w (w.alloc (.cells (optC ⟨s, e, vv, b, z, os⟩ v) 50)) := lay (Below.refl _ _) _
  unfold optC at hb ⊢
  simp only at hb ⊢
  clear h1 h2 h3 h4
  have t1 : True := trivial
  have t2 : True := trivial
  have t3 : True := trivial
  cases b1 with
  | false =>
    go_enter Try.func85, Try.ntmps85
    go_wp2_with (go_at_call 100; go_must (refine (k1 _).mono ?_); rintro e w' ⟨rfl, hw⟩; obtain rfl := hw.symm)
    go_ret
    exact ⟨ret_bool (by rw [HR.out]; rfl), hb⟩
  | true =>
    cases b2 with
    | false =>
      go_enter Try.func85, Try.ntmps85
      go_wp2_with (first
        | (go_at_call 100; have _t := t1; go_must (refine (k1 _).mono ?_); rintro e w' ⟨rfl, hw⟩; obtain rfl := hw.symm; clear t1 _t)
        | (go_at_call 100; go_must (refine (k2 _).mono ?_); rintro e w' ⟨rfl, hw⟩; obtain rfl := hw.symm))
      go_ret
      exact ⟨ret_bool (by rw [HR.out]; rfl), hb⟩
    | true =>
      cases b3 with
      | false =>
        go_enter Try.func85, Try.ntmps85
        go_wp2_with (first
          | (go_at_call 100; have _t := t1; go_must (refine (k1 _).mono ?_); rintro e w' ⟨rfl, hw⟩; obtain rfl := hw.symm; clear t1 _t)
          | (go_at_call 100; have _t := t2; go_must (refine (k2 _).mono ?_); rintro e w' ⟨rfl, hw⟩; obtain rfl := hw.symm; clear t2 _t)
          | (go_at_call 100; go_must (refine (k3 _).mono ?_); rintro e w' ⟨rfl, hw⟩; obtain rfl := hw.symm))
        go_ret
        exact ⟨ret_bool (by rw [HR.out]; rfl), hb⟩
      | true =>
        go_enter Try.func85, Try.ntmps85
        go_wp2_with (first
          | (go_at_call 100; have _t := t1; go_must (refine (k1 _).mono ?_); rintro e w' ⟨rfl, hw⟩; obtain rfl := hw.symm; clear t1 _t)
          | (go_at_call 100; have _t := t2; go_must (refine (k2 _).mono ?_); rintro e w' ⟨rfl, hw⟩; obtain rfl := hw.symm; clear t2 _t)
          | (go_at_call 100; have _t := t3; go_must (refine (k3 _).mono ?_); rintro e w' ⟨rfl, hw⟩; obtain rfl := hw.symm; clear t3 _t)
          | (go_at_call 100; go_must (refine (k4 _).mono ?_); rintro e w' ⟨rfl, hw⟩; obtain rfl := hw.symm))
        go_ret
        exact ⟨ret_bool (by rw [HR.out]; simp), hb⟩

theorem root_as (n : ByteArray) : (n.toList == [0]) = decide (n = rootB) := by
  rw [ByteArray.toList_eq]
  rw [Bool.eq_iff_iff]
  simp only [beq_iff_eq, decide_eq_true_eq]
  constructor
  · intro h
    apply ByteArray.ext
    apply Array.toList_inj.1
    rw [h]
    rfl
  · intro h
    rw [h]
    rfl

theorem or_bits (a b : Nat) (j k : Nat) (hk : a = k * 2 ^ j) (hb : b < 2 ^ j) (h : a + b < 2 ^ 32) : bits .or .u32 (a : Int) (b : Int) = ((a + b : Nat) : Int) := by
  subst hk
  rw [u32_or_nat _ _ (by omega) (by omega), Nat.mul_comm, ← Nat.two_pow_add_eq_or_of_lt hb]

set_option maxRecDepth 20000 in
theorem joinO_any (o : Ot) (v : Value) (w : World) (h : mayFl o = true) :
    Calls Try.prog 87 #[.agg (optC o v)] w fun e w' => e = .returned (.int .u32 (ttlO o)) ∧ Below w.heap.size w w' := by
  obtain ⟨s, e, vv, b, z, os⟩ := o
  unfold mayFl at h
  simp only [Bool.and_eq_true] at h
  obtain ⟨⟨⟨-, h2⟩, h3⟩, h4⟩ := h
  replace h2 := fitO_iff.1 h2
  replace h3 := fitO_iff.1 h3
  replace h4 := fitO_iff.1 h4
  have hb : Below w.heap.size w (w.alloc (.cells (optC ⟨s, e, vv, b, z, os⟩ v) 50)) := lay (Below.refl _ _) _
  unfold optC at hb ⊢
  simp only at hb ⊢
  obtain ⟨E, rfl⟩ : ∃ E : Nat, e = (E : Int) := ⟨e.toNat, by omega⟩
  obtain ⟨V, rfl⟩ : ∃ V : Nat, vv = (V : Int) := ⟨vv.toNat, by omega⟩
  obtain ⟨Z, rfl⟩ : ∃ Z : Nat, z = (Z : Int) := ⟨z.toNat, by omega⟩
  obtain ⟨X1, hX1⟩ : ∃ X : Nat, X = E * 16777216 + V * 65536 := ⟨_, rfl⟩
  obtain ⟨X2, hX2⟩ : ∃ X : Nat, X = X1 + Z := ⟨_, rfl⟩
  obtain ⟨X3, hX3⟩ : ∃ X : Nat, X = X2 + 32768 := ⟨_, rfl⟩
  have p15 : (2 : Nat) ^ 15 = 32768 := by decide
  have e0 : X1 = (E * 512 + V * 2) * 32768 := by rw [hX1]; simp [Nat.add_mul, Nat.mul_assoc]
  have e1 : Z < 32768 := by omega
  have e2 : X1 + Z < 2 ^ 32 := by omega
  have e3 : X2 = 2 ^ 16 * (E * 256 + V) + Z := by rw [hX2, hX1, Nat.mul_add, show 2 ^ 16 * (E * 256) = E * 16777216 from by rw [Nat.mul_comm, Nat.mul_assoc], show 2 ^ 16 * V = V * 65536 from by rw [Nat.mul_comm]]
  have e4 : 2 ^ 16 * (E * 256 + V) + (2 ^ 15 * 1 + Z) = X3 := by rw [hX3, e3, show 2 ^ 15 * 1 = 32768 from rfl]; omega
  have l1 : X1 < 4294967296 := by omega
  have l2 : X2 < 4294967296 := by omega
  have l3 : X3 < 4294967296 := by omega
  have HT : Hid (ttlO ⟨s, E, V, true, Z, os⟩ = (X3 : Int)) := by unfold Hid ttlO; simp; omega
  have HF : Hid (ttlO ⟨s, E, V, false, Z, os⟩ = (X2 : Int)) := by unfold Hid ttlO; simp; omega
  have o1 : bits .or .u32 ((E : Int) * 16777216) ((V : Int) * 65536) = (X1 : Int) := by
    have := or_bits (E * 16777216) (V * 65536) 24 E (by omega) (by omega) (by omega)
    rw [← hX1, show ((E * 16777216 : Nat) : Int) = (E : Int) * 16777216 from by omega, show ((V * 65536 : Nat) : Int) = (V : Int) * 65536 from by omega] at this
    exact this
  have o2 : bits .or .u32 (X1 : Int) (Z : Int) = (X2 : Int) := by
    rw [← p15] at e0 e1
    rw [hX2]
    exact or_bits _ Z 15 (E * 512 + V * 2) e0 e1 e2
  have o3 : bits .or .u32 (X2 : Int) 32768 = (X3 : Int) := by
    have f1 := u32_or_nat X2 32768 l2 (by decide)
    have f2 := Nat.two_pow_add_eq_or_of_lt (i := 16) (b := Z) (Nat.lt_of_lt_of_le e1 (by decide)) (E * 256 + V)
    have f3 := Nat.two_pow_add_eq_or_of_lt (i := 15) (b := Z) e1 1
    have f4 := Nat.two_pow_add_eq_or_of_lt (i := 16) (b := 2 ^ 15 * 1 + Z) (by have := e1; clear o1 o2 f1; omega) (E * 256 + V)
    have e6 : X2 ||| 32768 = X3 := by
      rw [e3, f2, Nat.or_assoc, Nat.or_comm Z, show 32768 = 2 ^ 15 * 1 from rfl, ← f3, ← f4]
      exact e4
    rw [← e6]
    exact f1
  clear hX1 hX2 hX3 e0 e1 e2 e3 e4
  cases b with
  | true =>
    go_enter Try.func87, Try.ntmps87
    go_wp2
    go_ret
    exact ⟨by rw [HT.out]; rfl, hb⟩
  | false =>
    go_enter Try.func87, Try.ntmps87
    go_wp2
    go_ret
    exact ⟨by rw [HF.out]; rfl, hb⟩

end Go.Proofs.Ytcapankhobnfeaa

/- What split, mayOptions, putOptions and getOptions of package opt give. -/
namespace Go.Proofs.Ytcapankhobnfeaa
open Go.RowKit

set_option maxRecDepth 20000 in
theorem mayOptions_any (v : Value) (os : List On) (w : World) (hr : ORow w v os) :
    Calls Try.prog 86 #[v] w fun e w' => e = .returned (.bool (mayOs os)) ∧ Below w.heap.size w w' := by
  obtain ⟨n, hn⟩ : ∃ n, n = os.length := ⟨_, rfl⟩
  have hmax := hr.2.1
  rw [← hn] at hmax
  unfold maxLen at hmax
  have hb : Below w.heap.size w w := Below.refl _ _
  obtain ⟨R, hR⟩ : ∃ R, R = mayOs os := ⟨_, rfl⟩
  have HRR : Hid (R = mayOs os) := hR
  have HN : Hid (n = os.length) := hn
  obtain ⟨x, c, hv⟩ := row_slice hr.1
  rw [← hn] at hv
  subst hv
  have HR : Hid (ORow w (.slice x n c) os) := hr
  rw [← hR]
  clear hR hr hn
  go_enter Try.func86, Try.ntmps86
  go_wp2
  go_loopw [3, 8] (fun l i wr => ∃ k y : Nat, k ≤ n ∧ y ≤ 65535 ∧ l = .int .i64 (y : Int) ∧ i = .int .i64 (k : Int) ∧ Hid (y + (osB (os.take k)).length = 65535) ∧ Hid (∀ j (h : j < os.length), j < k → fitO 65536 os[j].c = true) ∧ Below w.heap.size w wr) (fun _ i _ => n - (intOf i).toNat)
  case atStart => exact ⟨0, 65535, Nat.zero_le _, by decide, rfl, rfl, rfl, fun j _ hj => absurd hj (Nat.not_lt_zero _), hb⟩
  case round =>
    clear hb
    obtain ⟨k, y, hk, hy, rfl, rfl, HY, HA, hb⟩ := hrel
    by_cases hkn : k < n
    · have hkm : k < os.length := by have := HN.out; omega
      obtain ⟨g, o, cap, hx, hc⟩ := row_at (HR.out.below hb).1 (by omega)
      simp only [Value.slice.injEq] at hx
      obtain ⟨rfl, -, rfl⟩ := hx
      obtain ⟨d0, d1⟩ := o_cells hc hkm
      have hfar := HR.out.2.2 _ (List.getElem_mem hkm)
      unfold far at hfar
      have HT : Hid ((osB (os.take (k + 1))).length = (osB (os.take k)).length + (4 + os[k].d.size)) := by unfold Hid; rw [osB_take hkm, List.length_append, oB_len]
      have HNo : Hid (fitO 65536 os[k].c = false → mayOs os = false) := fun h => mayOs_code hkm h
      have HA2 : Hid (fitO 65536 os[k].c = true → ∀ j (h : j < os.length), j < k + 1 → fitO 65536 os[j].c = true) := fun h j hj hk1 => by
        by_cases e : j = k
        · subst e; exact h
        · exact HA.out j hj (by omega)
      obtain ⟨q, hq⟩ : ∃ q, q = os[k] := ⟨_, rfl⟩
      simp only [← hq] at d0 d1 hfar HT HNo HA2
      obtain ⟨qc, qd⟩ := q
      simp only at d0 d1 hfar HT HNo HA2
      clear hc hq
      by_cases hfit : 4 + qd.size ≤ y
      · have hfit' : decide ((y : Int) - (4 + (qd.size : Int)) < 0) = false := by simp; omega
        obtain ⟨b, hbq⟩ : ∃ b, fitO 65536 qc = b := ⟨_, rfl⟩
        have hcall := fun u => fit16 qc b u hbq
        rw [hbq] at HNo HA2
        clear hbq
        cases b with
        | false =>
          have HF : Hid (R = false) := by unfold Hid; rw [HRR.out]; exact HNo.out rfl
          go_wp2_with (go_at_call 100; go_must (refine (hcall _).mono ?_); rintro e w' ⟨rfl, hw⟩; obtain rfl := hw.symm)
          go_ret
          exact ⟨ret_bool HF.out.symm, lay hb _⟩
        | true =>
          go_wp2_with (go_at_call 100; go_must (refine (hcall _).mono ?_); rintro e w' ⟨rfl, hw⟩; obtain rfl := hw.symm)
          go_roundw
          case rel => exact ⟨k + 1, y - (4 + qd.size), by omega, by omega, by go_num, by go_num, by unfold Hid; rw [HT.out]; have := HY.out; omega, HA2.out (by trivial), lay hb _⟩
          case measure => simp [intOf]; omega
      · have hfit' : (y : Int) - (4 + (qd.size : Int)) < 0 := by omega
        have HF : Hid (R = false) := by unfold Hid; rw [HRR.out]; exact mayOs_long (k := k + 1) (by rw [HT.out]; have := HY.out; omega)
        go_wp2
        go_ret
        exact ⟨ret_bool HF.out.symm, lay hb _⟩
    · have hkn' : decide (k < n) = false := by simpa using hkn
      have HF : Hid (R = true) := by
        unfold Hid; rw [HRR.out]
        have h1 := HY.out
        rw [List.take_of_length_le (by have := HN.out; omega)] at h1
        refine mayOs_yes (fun o ho => ?_) (by omega)
        obtain ⟨j, hj, rfl⟩ := List.getElem_of_mem ho
        exact HA.out j hj (by have := HN.out; omega)
      go_wp2
      go_ret
      exact ⟨ret_bool HF.out.symm, hb⟩

theorem oB_cells (o : On) : (oB o).map bv = Lib.strCells (be2 o.c) ++ Lib.strCells (be2 (o.d.size : Int)) ++ Lib.strCells o.d := by
  simp [oB, Lib.strCells, bv, be2]

set_option maxRecDepth 20000 in
set_option maxHeartbeats 1000000 in
theorem putOptions_any (v : Value) (os : List On) (w : World) (hr : ORow w v os) (hm : (osB os).length ≤ 65535) :
    Calls Try.prog 88 #[v] w fun e w' => e = .returned (.string ⟨(osB os).toArray⟩) ∧ Below w.heap.size w w' := by
  obtain ⟨i0, hi, hz0, hz1, hz2⟩ := info_parts info5
  obtain ⟨n, hn⟩ : ∃ n, n = os.length := ⟨_, rfl⟩
  have hmax := hr.2.1
  rw [← hn] at hmax
  unfold maxLen at hmax
  have hb : Below w.heap.size w w := Below.refl _ _
  have HN : Hid (n = os.length) := hn
  have HM : Hid ((osB os).length ≤ 65535) := hm
  obtain ⟨x, c, hv⟩ := row_slice hr.1
  rw [← hn] at hv
  subst hv
  have HR : Hid (ORow w (.slice x n c) os) := hr
  clear hr hn hm
  go_enter Try.func88, Try.ntmps88
  go_wp2
  go_loopw [3, 8] (fun ov i wr => ∃ (k m : Nat), k ≤ n ∧ m ≤ 65535 ∧ i = .int .i64 (k : Int) ∧ wr.ownsRow w.heap.size 5 1 ov m ((osB (os.take k)).map bv) ∧ Hid (m = (osB (os.take k)).length) ∧ Below w.heap.size w wr) (fun _ i _ => n - (intOf i).toNat)
  case atStart => exact ⟨0, 0, Nat.zero_le _, Nat.zero_le _, rfl, World.ownsRow_nil _ _ _ _, rfl, hb⟩
  case round =>
    clear hb
    obtain ⟨k, m, hk, hmn, rfl, hown, HMM, hb⟩ := hrel
    have hB : w.heap.size ≤ wr.heap.size := hb.size
    by_cases hkn : k < n
    · have hkm : k < os.length := by have := HN.out; omega
      obtain ⟨g, o, cap, hx, hc⟩ := row_at (HR.out.below hb).1 (by omega)
      simp only [Value.slice.injEq] at hx
      obtain ⟨rfl, -, rfl⟩ := hx
      obtain ⟨d0, d1⟩ := o_cells hc hkm
      have hfar := HR.out.2.2 _ (List.getElem_mem hkm)
      unfold far at hfar
      have hle := osB_le os (k + 1)
      have hstep := osB_take hkm
      rw [hstep, List.length_append, oB_len, ← HMM.out] at hle
      have hle' : m + (4 + os[k].d.size) ≤ 65535 := Nat.le_trans hle HM.out
      have HS : Hid (osB (os.take (k + 1)) = osB (os.take k) ++ oB os[k]) := hstep
      obtain ⟨q, hq⟩ : ∃ q, q = os[k] := ⟨_, rfl⟩
      simp only [← hq] at d0 d1 hfar HS hle'
      obtain ⟨qc, qd⟩ := q
      simp only at d0 d1 hfar HS hle'
      have z2 : (be2 qc).size = 2 := rfl
      have z3 : (be2 (qd.size : Int)).size = 2 := rfl
      obtain ⟨B1, hB1⟩ : ∃ B, B = be2 qc := ⟨_, rfl⟩
      obtain ⟨B2, hB2⟩ : ∃ B, B = be2 (qd.size : Int) := ⟨_, rfl⟩
      have k1 := fun u => put16_any qc u
      have k2 := fun u => put16_any (qd.size : Int) u
      have HC : Hid ((oB ⟨qc, qd⟩).map bv = Lib.strCells B1 ++ Lib.strCells B2 ++ Lib.strCells qd) := by unfold Hid; rw [hB1, hB2]; exact oB_cells ⟨qc, qd⟩
      rw [← hB1] at k1 z2
      rw [← hB2] at k2 z3
      clear hc hq hstep hle hB1 hB2
      have t1 : True := trivial
      have t2 : True := trivial
      have t3 : True := trivial
      have hk1 : k + 1 ≤ n := hkn
      have kb := Blk.new wr (oV ⟨qc, qd⟩).toArray 56
      go_wp2_with (first
        | (go_at_call 74; have _t := t1; go_must (refine (k1 _).mono ?_); rintro e w1 ⟨rfl, b1⟩; replace kb := kb.below b1; have hown1 := own_past (hown.alloc _) b1; replace hb := next (lay hb _) b1; clear b1 t1 _t hown)
        | (at_builtin; have _t := t2; (refine Lib.wpList_append_own_string _ rfl _ _ 57 9 rfl w.heap.size 5 i0 Try.underlying57 Try.underlying9 hi hz0 hz1 hz2 _ _ _ rfl hown1 B1 rfl (by unfold maxLen; omega) (by omega) hb.size ?_); intro v2 w2 hown2 g2 _; replace kb := kb.grown g2 (own_sep hown1 kb (by decide)); replace hb := hb.grown g2 hb.size (fun k e => (hown1.lt k e).1); have e2 : w2.cell? ⟨wr.heap.size, 1, none⟩ = some (.string qd) := kb.cell 1; clear t2 _t hown1 g2)
        | (go_at_call 74; go_must (refine (k2 _).mono ?_); rintro e w3 ⟨rfl, b1⟩; replace kb := kb.below b1; have hown3 := own_past hown2 b1; replace hb := next hb b1; clear b1 hown2 e2)
        | (at_builtin; have _t := t3; (refine Lib.wpList_append_own_string _ rfl _ _ 57 9 rfl w.heap.size 5 i0 Try.underlying57 Try.underlying9 hi hz0 hz1 hz2 _ _ _ rfl hown3 B2 rfl (by unfold maxLen; omega) (by omega) hb.size ?_); intro v4 w4 hown4 g4 _; replace kb := kb.grown g4 (own_sep hown3 kb (by decide)); replace hb := hb.grown g4 hb.size (fun k e => (hown3.lt k e).1); have e4 : w4.cell? ⟨wr.heap.size, 1, none⟩ = some (.string qd) := kb.cell 1; clear t3 _t hown3 g4)
        | (at_builtin; (refine Lib.wpList_append_own_string _ rfl _ _ 57 9 rfl w.heap.size 5 i0 Try.underlying57 Try.underlying9 hi hz0 hz1 hz2 _ _ _ rfl hown4 qd rfl (by unfold maxLen; omega) (by omega) hb.size ?_); intro v5 w5 hown5 g5 _; replace hb := hb.grown g5 hb.size (fun k e => (hown4.lt k e).1); clear hown4 g5 e4))
      have HO : Hid (w5.ownsRow w.heap.size 5 1 v5 (m + (4 + qd.size)) ((osB (os.take (k + 1))).map bv)) := by
        unfold Hid
        rw [HS.out, List.map_append, HC.out, show m + (4 + qd.size) = m + B1.size + B2.size + qd.size from by omega]
        simpa [List.append_assoc] using hown5
      have HM2 : Hid (m + (4 + qd.size) = (osB (os.take (k + 1))).length) := by unfold Hid; rw [HS.out, List.length_append, oB_len, ← HMM.out]
      have HB5 : Hid (Below w.heap.size w w5) := hb
      clear hown5 kb hb
      go_roundw
      case rel => exact ⟨k + 1, m + (4 + qd.size), hk1, hle', by go_num, HO.out, HM2, HB5.out⟩
      case measure => simp [intOf]; omega
    · have hkn' : decide (k < n) = false := by simpa using hkn
      have hall : os.take k = os := List.take_of_length_le (by have := HN.out; omega)
      rw [hall] at hown
      clear hall
      go_wp2_with (refine wpList_string _ rfl (.tmp 28) rfl w.heap.size m _ (osB os) rfl hown ?_)
      go_ret
      exact ⟨rfl, hb⟩

end Go.Proofs.Ytcapankhobnfeaa

/- What getOptions of package opt gives. -/
namespace Go.Proofs.Ytcapankhobnfeaa
open Go.RowKit

theorem cut_mid (s : ByteArray) (i j : Nat) (c d : Int) (hc : c = (i : Int)) (hd : d = (j : Int)) (h : i ≤ j) (h2 : j ≤ s.size) (u : World) : (Instr.slice 9 (.string s) (some (.int .i64 c)) (some (.int .i64 d)) none).run Try.prog u = .ok (.string (s.extract i j)) u := by
  subst hc hd
  have := run_slice_string (P := Try.prog) u 9 s .i64 .i64 (i : Int) (j : Int) Try.underlying9 (by omega) (by omega) (by omega)
  rw [this]; rfl
theorem drop4 (s : ByteArray) (k : Nat) (h : k + 4 ≤ s.size) : s.data.toList.drop k = s[k] :: s[k + 1] :: s[k + 2] :: s[k + 3] :: s.data.toList.drop (k + 4) := by
  have hl := data_len s
  rw [List.drop_eq_getElem_cons (by omega), List.drop_eq_getElem_cons (by omega), List.drop_eq_getElem_cons (by omega), List.drop_eq_getElem_cons (by omega)]
  rfl
theorem ext_arr (s : ByteArray) (i n : Nat) : s.extract i (i + n) = ⟨((s.data.toList.drop i).take n).toArray⟩ := by
  apply ByteArray.ext
  apply Array.toList_inj.1
  rw [ext_list]
  simp
theorem four_parts (a b c d : UInt8) : four a b c d / 65536 % 65536 = two a b ∧ four a b c d / 1 % 65536 = two c d ∧ 0 ≤ four a b c d ∧ four a b c d < 4294967296 := by
  have := two_lt a b
  have := two_lt c d
  unfold four
  omega

/-- What getOptions gives. -/
def GO (w : World) (s : ByteArray) (e : Ending) (w' : World) : Prop :=
  ∃ (y : Option Addr) (n cap : Nat) (ok : Bool), e = .returned (.tuple #[.slice y n cap, .bool ok]) ∧ Below w.heap.size w w' ∧
    ((ok = true ∧ ∃ os, rdL s.data.toList = some os ∧ w'.ownsRow w.heap.size 56 2 (.slice y n cap) os.length (oC os)) ∨ (ok = false ∧ rdL s.data.toList = none))

end Go.Proofs.Ytcapankhobnfeaa
