/- What CopyMsg gives. -/
import Derived.Test.YtnecdpieoipjdaaMsA
namespace Go.Proofs.Ytnecdpieoipjdaa
open Go.RowKit
open Pl

/-- What holds while a message is copied; what holds once it is. -/
def CJ (W : World) (gm gr : Nat) (id : Int) (qr : Bool) (op : Int) (aa tc rd ra : Bool) (z rc : Int) (qs : List Qn) (an ns ar : List Rc) (x0 x1 x2 x3 : Option Addr) (c0 c1 c2 c3 : Nat) (l : Array Bool) (a : Act) (u : World) : Prop :=
  ∃ (p1 p2 p3 p4 q1 q2 q3 q4 d : Bool) (b1 b2 b3 b4 r1 r2 r3 r4 bl : Value), l = #[true, true, p1, true, true, q1, p2, true, true, q2, p3, true, true, q3, p4, true, true, q4, d, false] ∧ a = ⟨#[.agg #[.int .i64 id, .bool qr, .int .i64 op, .bool aa, .bool tc, .bool rd, .bool ra, .int .i64 z, .int .i64 rc, .slice x0 qs.length c0, .slice x1 an.length c1, .slice x2 ns.length c2, .slice x3 ar.length c3], .pointer (some ⟨gm, 0, none⟩), .pointer (some ⟨gr, 0, none⟩), .pointer (some ⟨gm, 0, none⟩), .agg #[.int .i64 id, .bool qr, .int .i64 op, .bool aa, .bool tc, .bool rd, .bool ra, .int .i64 z, .int .i64 rc], b1, .pointer (some ⟨gm, 9, none⟩), .slice x0 qs.length c0, r1, b2, .pointer (some ⟨gm, 10, none⟩), .slice x1 an.length c1, r2, b3, .pointer (some ⟨gm, 11, none⟩), .slice x2 ns.length c2, r3, b4, .pointer (some ⟨gm, 12, none⟩), .slice x3 ar.length c3, r4, bl], []⟩ ∧ Below W.heap.size W u ∧
    (p1 = true → ∃ g, b1 = .slice (some g) 0 0) ∧ (p2 = true → ∃ g, b2 = .slice (some g) 0 0) ∧ (p3 = true → ∃ g, b3 = .slice (some g) 0 0) ∧ (p4 = true → ∃ g, b4 = .slice (some g) 0 0) ∧
    (q1 = true → CRow W.heap.size u 58 3 r1 qs.length (qC qs)) ∧ (q2 = true → CRow W.heap.size u 42 5 r2 an.length (rC an)) ∧ (q3 = true → CRow W.heap.size u 42 5 r3 ns.length (rC ns)) ∧ (q4 = true → CRow W.heap.size u 42 5 r4 ar.length (rC ar)) ∧
    (d = true → q1 = true ∧ q2 = true ∧ q3 = true ∧ q4 = true ∧ bl = .agg #[.int .i64 id, .bool qr, .int .i64 op, .bool aa, .bool tc, .bool rd, .bool ra, .int .i64 z, .int .i64 rc, r1, r2, r3, r4])
def CE (w W : World) (gm gr : Nat) (id : Int) (qr : Bool) (op : Int) (aa tc rd ra : Bool) (z rc : Int) (qs : List Qn) (an ns ar : List Rc) (x0 x1 x2 x3 : Option Addr) (c0 c1 c2 c3 : Nat) (l : Array Bool) (a : Act) (u : World) : Prop :=
  ∃ (b1 b2 b3 b4 r1 r2 r3 r4 bl : Value), l = #[true, true, true, true, true, true, true, true, true, true, true, true, true, true, true, true, true, true, true, true] ∧ a = ⟨#[.agg #[.int .i64 id, .bool qr, .int .i64 op, .bool aa, .bool tc, .bool rd, .bool ra, .int .i64 z, .int .i64 rc, .slice x0 qs.length c0, .slice x1 an.length c1, .slice x2 ns.length c2, .slice x3 ar.length c3], .pointer (some ⟨gm, 0, none⟩), .pointer (some ⟨gr, 0, none⟩), .pointer (some ⟨gm, 0, none⟩), .agg #[.int .i64 id, .bool qr, .int .i64 op, .bool aa, .bool tc, .bool rd, .bool ra, .int .i64 z, .int .i64 rc], b1, .pointer (some ⟨gm, 9, none⟩), .slice x0 qs.length c0, r1, b2, .pointer (some ⟨gm, 10, none⟩), .slice x1 an.length c1, r2, b3, .pointer (some ⟨gm, 11, none⟩), .slice x2 ns.length c2, r3, b4, .pointer (some ⟨gm, 12, none⟩), .slice x3 ar.length c3, r4, bl], []⟩ ∧ Below w.heap.size w u ∧ Blk u gm (msgC ⟨id, qr, op, aa, tc, rd, ra, z, rc⟩ (.slice x0 qs.length c0) (.slice x1 an.length c1) (.slice x2 ns.length c2) (.slice x3 ar.length c3)) 27 ∧ Blk u gr #[.int .i64 id, .bool qr, .int .i64 op, .bool aa, .bool tc, .bool rd, .bool ra, .int .i64 z, .int .i64 rc, r1, r2, r3, r4] 27 ∧
    CRow W.heap.size u 58 3 r1 qs.length (qC qs) ∧ CRow W.heap.size u 42 5 r2 an.length (rC an) ∧ CRow W.heap.size u 42 5 r3 ns.length (rC ns) ∧ CRow W.heap.size u 42 5 r4 ar.length (rC ar)

theorem all_listed {i : Nat} : Array.getD #[true, true, true, true, true, true, true, true, true, true, true, true, true, true, true, true, true, true, true, true] i true = true := by
  rw [Array.getD_eq_getD_getElem?]
  by_cases h : i < 20
  · match i, h with
    | 0, _ => rfl
    | 1, _ => rfl
    | 2, _ => rfl
    | 3, _ => rfl
    | 4, _ => rfl
    | 5, _ => rfl
    | 6, _ => rfl
    | 7, _ => rfl
    | 8, _ => rfl
    | 9, _ => rfl
    | 10, _ => rfl
    | 11, _ => rfl
    | 12, _ => rfl
    | 13, _ => rfl
    | 14, _ => rfl
    | 15, _ => rfl
    | 16, _ => rfl
    | 17, _ => rfl
    | 18, _ => rfl
    | 19, _ => rfl
    | n + 20, h => exact absurd h (by omega)
  · rw [Array.getElem?_eq_none (by show 20 ≤ i; omega)]; rfl

set_option maxRecDepth 20000 in
set_option maxHeartbeats 8000000 in
theorem copyMsg_any (id : Int) (qr : Bool) (op : Int) (aa tc rd ra : Bool) (z rc : Int) (qs : List Qn) (an ns ar : List Rc) (v0 v1 v2 v3 : Value) (w : World) (h0 : QRow w v0 qs) (h1 : RRow w v1 an) (h2 : RRow w v2 ns) (h3 : RRow w v3 ar) (z0 : qs.length * 32 ≤ 140737488351232) (z1 : an.length * 56 ≤ 140737488351232) (z2 : ns.length * 56 ≤ 140737488351232) (z3 : ar.length * 56 ≤ 140737488351232) :
    Calls Try.prog 7 #[.agg #[.int .i64 id, .bool qr, .int .i64 op, .bool aa, .bool tc, .bool rd, .bool ra, .int .i64 z, .int .i64 rc, v0, v1, v2, v3]] w fun e w' => ∃ (y0 y1 y2 y3 : Option Addr) (k0 k1 k2 k3 : Nat), e = .returned (.agg #[.int .i64 id, .bool qr, .int .i64 op, .bool aa, .bool tc, .bool rd, .bool ra, .int .i64 z, .int .i64 rc, .slice y0 qs.length k0, .slice y1 an.length k1, .slice y2 ns.length k2, .slice y3 ar.length k3]) ∧
      QRow w' (.slice y0 qs.length k0) qs ∧ RRow w' (.slice y1 an.length k1) an ∧ RRow w' (.slice y2 ns.length k2) ns ∧ RRow w' (.slice y3 ar.length k3) ar ∧ Below w.heap.size w w' := by
  obtain ⟨x0, c0, rfl⟩ := row_slice h0.1
  obtain ⟨x1, c1, rfl⟩ := row_slice h1.1
  obtain ⟨x2, c2, rfl⟩ := row_slice h2.1
  obtain ⟨x3, c3, rfl⟩ := row_slice h3.1
  have hb : Below w.heap.size w w := Below.refl _ _
  have H0 : Hid (QRow w (.slice x0 qs.length c0) qs) := h0
  have H1 : Hid (RRow w (.slice x1 an.length c1) an) := h1
  have H2 : Hid (RRow w (.slice x2 ns.length c2) ns) := h2
  have H3 : Hid (RRow w (.slice x3 ar.length c3) ar) := h3
  obtain ⟨iq, hq⟩ := info_parts infoQ
  obtain ⟨ir, hr⟩ := info_parts infoR
  clear h0 h1 h2 h3
  have KM := (Blk.new w (msgC ⟨id, qr, op, aa, tc, rd, ra, z, rc⟩ (.slice x0 qs.length c0) (.slice x1 an.length c1) (.slice x2 ns.length c2) (.slice x3 ar.length c3)) 27).alloc (.cells (msgC hdZ (.slice none 0 0) (.slice none 0 0) (.slice none 0 0) (.slice none 0 0)) 27)
  have KR := Blk.new (w.alloc (.cells (msgC ⟨id, qr, op, aa, tc, rd, ra, z, rc⟩ (.slice x0 qs.length c0) (.slice x1 an.length c1) (.slice x2 ns.length c2) (.slice x3 ar.length c3)) 27)) (msgC hdZ (.slice none 0 0) (.slice none 0 0) (.slice none 0 0) (.slice none 0 0)) 27
  have HBW : Hid (Below w.heap.size w ((w.alloc (.cells (msgC ⟨id, qr, op, aa, tc, rd, ra, z, rc⟩ (.slice x0 qs.length c0) (.slice x1 an.length c1) (.slice x2 ns.length c2) (.slice x3 ar.length c3)) 27)).alloc (.cells (msgC hdZ (.slice none 0 0) (.slice none 0 0) (.slice none 0 0) (.slice none 0 0)) 27))) := lay (lay hb _) _
  rw [World.size_alloc] at KR
  unfold msgC hdZ at KM KR HBW
  simp only at KM KR HBW
  go_enter Try.func7, Try.ntmps7
  go_wp2
  revert KM KR HBW
  generalize (w.alloc _).alloc _ = W0
  intro KM KR HBW
  replace KM := KM.below (Below.refl _ _).drew
  replace KR := KR.below (Below.refl _ _).drew
  replace HBW : Hid (Below w.heap.size w W0.drew) := HBW.out.drew
  have hgr := KR.lt
  have hlo : w.heap.size < w.heap.size + 1 := by omega
  obtain ⟨gr, hgre⟩ : ∃ gr, w.heap.size + 1 = gr := ⟨_, rfl⟩
  rw [hgre] at KR hgr hlo ⊢
  clear hgre
  obtain ⟨gm, hgme⟩ : ∃ gm, w.heap.size = gm := ⟨_, rfl⟩
  have hne : gm ≠ gr := by omega
  rw [hgme] at KM
  simp only [hgme]
  refine wp_region_held_drew (S := fun u => Blk u gm (msgC ⟨id, qr, op, aa, tc, rd, ra, z, rc⟩ (.slice x0 qs.length c0) (.slice x1 an.length c1) (.slice x2 ns.length c2) (.slice x3 ar.length c3)) 27) (by kernel_rfl) KM (fun hHeld => ?_)
  refine wpAnyH_take (i := 0) (v := .pointer (some ⟨gm, 0, none⟩)) rfl (by kernel_rfl) (by kernel_rfl) (by kernel_rfl) (fun _ _ _ h => h) (Or.inl ⟨by rfl, ?_⟩) hHeld ?_
  · intro u hu
    obtain ⟨e0, e1, e2, e3, e4, e5, e6, e7, e8, e9, e10, e11, e12⟩ := blk13 (h := ⟨id, qr, op, aa, tc, rd, ra, z, rc⟩) hu
    simp only at e0 e1 e2 e3 e4 e5 e6 e7 e8
    go_simp
  simp only [Act.put, List.getElem_toArray, List.getElem_cons_zero, List.setIfInBounds_toArray, List.set_cons_zero, List.set_cons_succ]
  refine wpAnyH_take (i := 1) (v := .agg #[.int .i64 id, .bool qr, .int .i64 op, .bool aa, .bool tc, .bool rd, .bool ra, .int .i64 z, .int .i64 rc]) rfl (by kernel_rfl) (by kernel_rfl) (by kernel_rfl) (fun _ _ _ h => h) (Or.inl ⟨by rfl, ?_⟩) hHeld ?_
  · intro u hu
    obtain ⟨e0, e1, e2, e3, e4, e5, e6, e7, e8, e9, e10, e11, e12⟩ := blk13 (h := ⟨id, qr, op, aa, tc, rd, ra, z, rc⟩) hu
    simp only at e0 e1 e2 e3 e4 e5 e6 e7 e8
    go_simp
  simp only [Act.put, List.getElem_toArray, List.getElem_cons_succ, List.getElem_cons_zero, List.setIfInBounds_toArray, List.set_cons_zero, List.set_cons_succ]
  refine wpAnyH_take (i := 3) (v := .pointer (some ⟨gm, 9, none⟩)) rfl (by kernel_rfl) (by kernel_rfl) (by kernel_rfl) (fun _ _ _ h => h) (Or.inl ⟨by rfl, ?_⟩) hHeld ?_
  · intro u hu
    obtain ⟨e0, e1, e2, e3, e4, e5, e6, e7, e8, e9, e10, e11, e12⟩ := blk13 (h := ⟨id, qr, op, aa, tc, rd, ra, z, rc⟩) hu
    simp only at e0 e1 e2 e3 e4 e5 e6 e7 e8
    go_simp
  simp only [Act.put, List.getElem_toArray, List.getElem_cons_succ, List.getElem_cons_zero, List.setIfInBounds_toArray, List.set_cons_zero, List.set_cons_succ]
  refine wpAnyH_take (i := 4) (v := .slice x0 qs.length c0) rfl (by kernel_rfl) (by kernel_rfl) (by kernel_rfl) (fun _ _ _ h => h) (Or.inl ⟨by rfl, ?_⟩) hHeld ?_
  · intro u hu
    obtain ⟨e0, e1, e2, e3, e4, e5, e6, e7, e8, e9, e10, e11, e12⟩ := blk13 (h := ⟨id, qr, op, aa, tc, rd, ra, z, rc⟩) hu
    simp only at e0 e1 e2 e3 e4 e5 e6 e7 e8
    go_simp
  simp only [Act.put, List.getElem_toArray, List.getElem_cons_succ, List.getElem_cons_zero, List.setIfInBounds_toArray, List.set_cons_zero, List.set_cons_succ]
  refine wpAnyH_take (i := 7) (v := .pointer (some ⟨gm, 10, none⟩)) rfl (by kernel_rfl) (by kernel_rfl) (by kernel_rfl) (fun _ _ _ h => h) (Or.inl ⟨by rfl, ?_⟩) hHeld ?_
  · intro u hu
    obtain ⟨e0, e1, e2, e3, e4, e5, e6, e7, e8, e9, e10, e11, e12⟩ := blk13 (h := ⟨id, qr, op, aa, tc, rd, ra, z, rc⟩) hu
    simp only at e0 e1 e2 e3 e4 e5 e6 e7 e8
    go_simp
  simp only [Act.put, List.getElem_toArray, List.getElem_cons_succ, List.getElem_cons_zero, List.setIfInBounds_toArray, List.set_cons_zero, List.set_cons_succ]
  refine wpAnyH_take (i := 8) (v := .slice x1 an.length c1) rfl (by kernel_rfl) (by kernel_rfl) (by kernel_rfl) (fun _ _ _ h => h) (Or.inl ⟨by rfl, ?_⟩) hHeld ?_
  · intro u hu
    obtain ⟨e0, e1, e2, e3, e4, e5, e6, e7, e8, e9, e10, e11, e12⟩ := blk13 (h := ⟨id, qr, op, aa, tc, rd, ra, z, rc⟩) hu
    simp only at e0 e1 e2 e3 e4 e5 e6 e7 e8
    go_simp
  simp only [Act.put, List.getElem_toArray, List.getElem_cons_succ, List.getElem_cons_zero, List.setIfInBounds_toArray, List.set_cons_zero, List.set_cons_succ]
  refine wpAnyH_take (i := 11) (v := .pointer (some ⟨gm, 11, none⟩)) rfl (by kernel_rfl) (by kernel_rfl) (by kernel_rfl) (fun _ _ _ h => h) (Or.inl ⟨by rfl, ?_⟩) hHeld ?_
  · intro u hu
    obtain ⟨e0, e1, e2, e3, e4, e5, e6, e7, e8, e9, e10, e11, e12⟩ := blk13 (h := ⟨id, qr, op, aa, tc, rd, ra, z, rc⟩) hu
    simp only at e0 e1 e2 e3 e4 e5 e6 e7 e8
    go_simp
  simp only [Act.put, List.getElem_toArray, List.getElem_cons_succ, List.getElem_cons_zero, List.setIfInBounds_toArray, List.set_cons_zero, List.set_cons_succ]
  refine wpAnyH_take (i := 12) (v := .slice x2 ns.length c2) rfl (by kernel_rfl) (by kernel_rfl) (by kernel_rfl) (fun _ _ _ h => h) (Or.inl ⟨by rfl, ?_⟩) hHeld ?_
  · intro u hu
    obtain ⟨e0, e1, e2, e3, e4, e5, e6, e7, e8, e9, e10, e11, e12⟩ := blk13 (h := ⟨id, qr, op, aa, tc, rd, ra, z, rc⟩) hu
    simp only at e0 e1 e2 e3 e4 e5 e6 e7 e8
    go_simp
  simp only [Act.put, List.getElem_toArray, List.getElem_cons_succ, List.getElem_cons_zero, List.setIfInBounds_toArray, List.set_cons_zero, List.set_cons_succ]
  refine wpAnyH_take (i := 15) (v := .pointer (some ⟨gm, 12, none⟩)) rfl (by kernel_rfl) (by kernel_rfl) (by kernel_rfl) (fun _ _ _ h => h) (Or.inl ⟨by rfl, ?_⟩) hHeld ?_
  · intro u hu
    obtain ⟨e0, e1, e2, e3, e4, e5, e6, e7, e8, e9, e10, e11, e12⟩ := blk13 (h := ⟨id, qr, op, aa, tc, rd, ra, z, rc⟩) hu
    simp only at e0 e1 e2 e3 e4 e5 e6 e7 e8
    go_simp
  simp only [Act.put, List.getElem_toArray, List.getElem_cons_succ, List.getElem_cons_zero, List.setIfInBounds_toArray, List.set_cons_zero, List.set_cons_succ]
  refine wpAnyH_take (i := 16) (v := .slice x3 ar.length c3) rfl (by kernel_rfl) (by kernel_rfl) (by kernel_rfl) (fun _ _ _ h => h) (Or.inl ⟨by rfl, ?_⟩) hHeld ?_
  · intro u hu
    obtain ⟨e0, e1, e2, e3, e4, e5, e6, e7, e8, e9, e10, e11, e12⟩ := blk13 (h := ⟨id, qr, op, aa, tc, rd, ra, z, rc⟩) hu
    simp only at e0 e1 e2 e3 e4 e5 e6 e7 e8
    go_simp
  simp only [Act.put, List.getElem_toArray, List.getElem_cons_succ, List.getElem_cons_zero, List.setIfInBounds_toArray, List.set_cons_zero, List.set_cons_succ]
  generalize W0.drew = W at KM KR HBW hgr hHeld ⊢
  have HKM : Hid (Blk W gm (msgC ⟨id, qr, op, aa, tc, rd, ra, z, rc⟩ (.slice x0 qs.length c0) (.slice x1 an.length c1) (.slice x2 ns.length c2) (.slice x3 ar.length c3)) 27) := KM
  have HKR : Hid (Blk W gr (msgC hdZ (.slice none 0 0) (.slice none 0 0) (.slice none 0 0) (.slice none 0 0)) 27) := KR
  clear KM KR hHeld hb
  refine wpAnyH_inv (fun l a u => CJ W gm gr id qr op aa tc rd ra z rc qs an ns ar x0 x1 x2 x3 c0 c1 c2 c3 l a u ∨ CE w W gm gr id qr op aa tc rd ra z rc qs an ns ar x0 x1 x2 x3 c0 c1 c2 c3 l a u) ?_ ?_ ?_ _ _ _ _ (by decide) (.inl ⟨false, false, false, false, false, false, false, false, false, _, _, _, _, _, _, _, _, _, rfl, rfl, Below.refl _ _, fun h => (by simp at h), fun h => (by simp at h), fun h => (by simp at h), fun h => (by simp at h), fun h => (by simp at h), fun h => (by simp at h), fun h => (by simp at h), fun h => (by simp at h), fun h => (by simp at h)⟩)
  · intro l a u hJ
    rcases hJ with hJ | hJ
    · obtain ⟨p1, p2, p3, p4, q1, q2, q3, q4, d, b1, b2, b3, b4, r1, r2, r3, r4, bl, rfl, rfl, hbu, _⟩ := hJ
      exact HKM.out.below hbu
    · obtain ⟨b1, b2, b3, b4, r1, r2, r3, r4, bl, rfl, rfl, hbu, hkm, _⟩ := hJ
      exact hkm
  · intro l a u hJ i hi o ho hall K hK
    have HK : Hid (∀ a' w', (CJ W gm gr id qr op aa tc rd ra z rc qs an ns ar x0 x1 x2 x3 c0 c1 c2 c3 (l.setIfInBounds i true) a' w' ∨ CE w W gm gr id qr op aa tc rd ra z rc qs an ns ar x0 x1 x2 x3 c0 c1 c2 c3 (l.setIfInBounds i true) a' w') → K a' w') := hK
    clear hK
    rcases hJ with hJ | hJ
    rotate_left
    · obtain ⟨b1, b2, b3, b4, r1, r2, r3, r4, bl, rfl, _⟩ := hJ
      rw [all_listed] at hi
      simp at hi
    obtain ⟨p1, p2, p3, p4, q1, q2, q3, q4, d, b1, b2, b3, b4, r1, r2, r3, r4, bl, rfl, rfl, hbu, e1, e2, e3, e4, k1, k2, k3, k4, ed⟩ := hJ
    match i, hi, ho, hall with
    | 0, hi, _, _ => exact absurd (show true = false from hi) (by decide)
    | 1, hi, _, _ => exact absurd (show true = false from hi) (by decide)
    | 2, hi, ho, hall =>
      have hp : p1 = false := hi
      subst hp
      simp at ho
      subst ho
      go_simp
      exact HK.out _ _ (.inl ⟨true, p2, p3, p4, q1, q2, q3, q4, d, .slice (some ⟨u.heap.size, 0, none⟩) 0 0, b2, b3, b4, r1, r2, r3, r4, bl, rfl, rfl, lay hbu _, fun _ => ⟨_, rfl⟩, e2, e3, e4, fun h => (k1 h).below (lay (Below.refl _ _) _), fun h => (k2 h).below (lay (Below.refl _ _) _), fun h => (k3 h).below (lay (Below.refl _ _) _), fun h => (k4 h).below (lay (Below.refl _ _) _), ed⟩)
    | 3, hi, _, _ => exact absurd (show true = false from hi) (by decide)
    | 4, hi, _, _ => exact absurd (show true = false from hi) (by decide)
    | 5, hi, ho, hall =>
      have hq' : q1 = false := hi
      subst hq'
      simp at ho
      subst ho
      have hp : p1 = true := hall ⟨2, .data⟩ (by simp) rfl
      subst hp
      obtain ⟨g, rfl⟩ := e1 rfl
      have hd : d = false := by
        cases d with
        | false => rfl
        | true => have := (ed rfl).1; simp at this
      subst hd
      refine step_copy rfl (.tmp 5) (.tmp 7) 24 rfl W.heap.size 58 iq (.agg #[.string ⟨#[]⟩, .int .i64 0, .int .i64 0]) 3 32 Try.underlying24 hq.1 hq.2.1 hq.2.2.1 hq.2.2.2 rfl (by decide) g rfl _ qs.length (qC qs) rfl ((H0.out.below (next HBW.out hbu)).1) (qC_len qs) (qC_one qs) (by omega) H0.out.2.1 hbu.size (fun v' u' cr bl2 => ?_)
      exact HK.out _ _ (.inl ⟨true, p2, p3, p4, true, q2, q3, q4, false, _, b2, b3, b4, v', r2, r3, r4, bl, rfl, rfl, next hbu bl2, fun _ => ⟨g, rfl⟩, e2, e3, e4, fun _ => cr, fun h => (k2 h).below bl2, fun h => (k3 h).below bl2, fun h => (k4 h).below bl2, fun h => by simp at h⟩)
    | 6, hi, ho, hall =>
      have hp : p2 = false := hi
      subst hp
      simp at ho
      subst ho
      go_simp
      exact HK.out _ _ (.inl ⟨p1, true, p3, p4, q1, q2, q3, q4, d, b1, .slice (some ⟨u.heap.size, 0, none⟩) 0 0, b3, b4, r1, r2, r3, r4, bl, rfl, rfl, lay hbu _, e1, fun _ => ⟨_, rfl⟩, e3, e4, fun h => (k1 h).below (lay (Below.refl _ _) _), fun h => (k2 h).below (lay (Below.refl _ _) _), fun h => (k3 h).below (lay (Below.refl _ _) _), fun h => (k4 h).below (lay (Below.refl _ _) _), ed⟩)
    | 7, hi, _, _ => exact absurd (show true = false from hi) (by decide)
    | 8, hi, _, _ => exact absurd (show true = false from hi) (by decide)
    | 9, hi, ho, hall =>
      have hq' : q2 = false := hi
      subst hq'
      simp at ho
      subst ho
      have hp : p2 = true := hall ⟨6, .data⟩ (by simp) rfl
      subst hp
      obtain ⟨g, rfl⟩ := e2 rfl
      have hd : d = false := by
        cases d with
        | false => rfl
        | true => have := (ed rfl).2.1; simp at this
      subst hd
      refine step_copy rfl (.tmp 9) (.tmp 11) 25 rfl W.heap.size 42 ir (.agg #[.string ⟨#[]⟩, .int .i64 0, .int .i64 0, .int .i64 0, .string ⟨#[]⟩]) 5 56 Try.underlying25 hr.1 hr.2.1 hr.2.2.1 hr.2.2.2 rfl (by decide) g rfl _ an.length (rC an) rfl ((H1.out.below (next HBW.out hbu)).1) (rC_len an) (rC_one an) (by omega) H1.out.2.1 hbu.size (fun v' u' cr bl2 => ?_)
      exact HK.out _ _ (.inl ⟨p1, true, p3, p4, q1, true, q3, q4, false, b1, _, b3, b4, r1, v', r3, r4, bl, rfl, rfl, next hbu bl2, e1, fun _ => ⟨g, rfl⟩, e3, e4, fun h => (k1 h).below bl2, fun _ => cr, fun h => (k3 h).below bl2, fun h => (k4 h).below bl2, fun h => by simp at h⟩)
    | 10, hi, ho, hall =>
      have hp : p3 = false := hi
      subst hp
      simp at ho
      subst ho
      go_simp
      exact HK.out _ _ (.inl ⟨p1, p2, true, p4, q1, q2, q3, q4, d, b1, b2, .slice (some ⟨u.heap.size, 0, none⟩) 0 0, b4, r1, r2, r3, r4, bl, rfl, rfl, lay hbu _, e1, e2, fun _ => ⟨_, rfl⟩, e4, fun h => (k1 h).below (lay (Below.refl _ _) _), fun h => (k2 h).below (lay (Below.refl _ _) _), fun h => (k3 h).below (lay (Below.refl _ _) _), fun h => (k4 h).below (lay (Below.refl _ _) _), ed⟩)
    | 11, hi, _, _ => exact absurd (show true = false from hi) (by decide)
    | 12, hi, _, _ => exact absurd (show true = false from hi) (by decide)
    | 13, hi, ho, hall =>
      have hq' : q3 = false := hi
      subst hq'
      simp at ho
      subst ho
      have hp : p3 = true := hall ⟨10, .data⟩ (by simp) rfl
      subst hp
      obtain ⟨g, rfl⟩ := e3 rfl
      have hd : d = false := by
        cases d with
        | false => rfl
        | true => have := (ed rfl).2.2.1; simp at this
      subst hd
      refine step_copy rfl (.tmp 13) (.tmp 15) 25 rfl W.heap.size 42 ir (.agg #[.string ⟨#[]⟩, .int .i64 0, .int .i64 0, .int .i64 0, .string ⟨#[]⟩]) 5 56 Try.underlying25 hr.1 hr.2.1 hr.2.2.1 hr.2.2.2 rfl (by decide) g rfl _ ns.length (rC ns) rfl ((H2.out.below (next HBW.out hbu)).1) (rC_len ns) (rC_one ns) (by omega) H2.out.2.1 hbu.size (fun v' u' cr bl2 => ?_)
      exact HK.out _ _ (.inl ⟨p1, p2, true, p4, q1, q2, true, q4, false, b1, b2, _, b4, r1, r2, v', r4, bl, rfl, rfl, next hbu bl2, e1, e2, fun _ => ⟨g, rfl⟩, e4, fun h => (k1 h).below bl2, fun h => (k2 h).below bl2, fun _ => cr, fun h => (k4 h).below bl2, fun h => by simp at h⟩)
    | 14, hi, ho, hall =>
      have hp : p4 = false := hi
      subst hp
      simp at ho
      subst ho
      go_simp
      exact HK.out _ _ (.inl ⟨p1, p2, p3, true, q1, q2, q3, q4, d, b1, b2, b3, .slice (some ⟨u.heap.size, 0, none⟩) 0 0, r1, r2, r3, r4, bl, rfl, rfl, lay hbu _, e1, e2, e3, fun _ => ⟨_, rfl⟩, fun h => (k1 h).below (lay (Below.refl _ _) _), fun h => (k2 h).below (lay (Below.refl _ _) _), fun h => (k3 h).below (lay (Below.refl _ _) _), fun h => (k4 h).below (lay (Below.refl _ _) _), ed⟩)
    | 15, hi, _, _ => exact absurd (show true = false from hi) (by decide)
    | 16, hi, _, _ => exact absurd (show true = false from hi) (by decide)
    | 17, hi, ho, hall =>
      have hq' : q4 = false := hi
      subst hq'
      simp at ho
      subst ho
      have hp : p4 = true := hall ⟨14, .data⟩ (by simp) rfl
      subst hp
      obtain ⟨g, rfl⟩ := e4 rfl
      have hd : d = false := by
        cases d with
        | false => rfl
        | true => have := (ed rfl).2.2.2.1; simp at this
      subst hd
      refine step_copy rfl (.tmp 17) (.tmp 19) 25 rfl W.heap.size 42 ir (.agg #[.string ⟨#[]⟩, .int .i64 0, .int .i64 0, .int .i64 0, .string ⟨#[]⟩]) 5 56 Try.underlying25 hr.1 hr.2.1 hr.2.2.1 hr.2.2.2 rfl (by decide) g rfl _ ar.length (rC ar) rfl ((H3.out.below (next HBW.out hbu)).1) (rC_len ar) (rC_one ar) (by omega) H3.out.2.1 hbu.size (fun v' u' cr bl2 => ?_)
      exact HK.out _ _ (.inl ⟨p1, p2, p3, true, q1, q2, q3, true, false, b1, b2, b3, _, r1, r2, r3, v', bl, rfl, rfl, next hbu bl2, e1, e2, e3, fun _ => ⟨g, rfl⟩, fun h => (k1 h).below bl2, fun h => (k2 h).below bl2, fun h => (k3 h).below bl2, fun _ => cr, fun h => by simp at h⟩)
    | 18, hi, ho, hall =>
      have hd : d = false := hi
      subst hd
      simp at ho
      subst ho
      have f1 : q1 = true := hall ⟨5, .data⟩ (by simp) rfl
      have f2 : q2 = true := hall ⟨9, .data⟩ (by simp) rfl
      have f3 : q3 = true := hall ⟨13, .data⟩ (by simp) rfl
      have f4 : q4 = true := hall ⟨17, .data⟩ (by simp) rfl
      obtain ⟨y1, w1, s1⟩ := row_slice (k1 f1).row
      obtain ⟨y2, w2, s2⟩ := row_slice (k2 f2).row
      obtain ⟨y3, w3, s3⟩ := row_slice (k3 f3).row
      obtain ⟨y4, w4, s4⟩ := row_slice (k4 f4).row
      subst s1 s2 s3 s4
      go_simp
      exact HK.out _ _ (.inl ⟨p1, p2, p3, p4, q1, q2, q3, q4, true, b1, b2, b3, b4, _, _, _, _, _, rfl, rfl, hbu, e1, e2, e3, e4, k1, k2, k3, k4, fun _ => ⟨f1, f2, f3, f4, rfl⟩⟩)
    | 19, hi, ho, hall =>
      simp at ho
      subst ho
      have fd : d = true := hall ⟨18, .data⟩ (by simp) rfl
      have fp1 : p1 = true := hall ⟨2, .phase⟩ (by simp) rfl
      have fp2 : p2 = true := hall ⟨6, .phase⟩ (by simp) rfl
      have fp3 : p3 = true := hall ⟨10, .phase⟩ (by simp) rfl
      have fp4 : p4 = true := hall ⟨14, .phase⟩ (by simp) rfl
      obtain ⟨f1, f2, f3, f4, rfl⟩ := ed fd
      obtain ⟨y1, w1, s1⟩ := row_slice (k1 f1).row
      obtain ⟨y2, w2, s2⟩ := row_slice (k2 f2).row
      obtain ⟨y3, w3, s3⟩ := row_slice (k3 f3).row
      obtain ⟨y4, w4, s4⟩ := row_slice (k4 f4).row
      subst s1 s2 s3 s4
      have c1 := k1 f1
      have c2 := k2 f2
      have c3 := k3 f3
      have c4 := k4 f4
      subst fd fp1 fp2 fp3 fp4 f1 f2 f3 f4
      have KU := HKR.out.below hbu
      obtain ⟨g0, g1, g2, g3, g4, g5, g6, g7, g8, g9, g10, g11, g12⟩ := open13 KU
      obtain ⟨o0, o1, o2, o3, o4, o5, o6, o7, o8, o9, o10, o11, o12⟩ := blk13 (h := hdZ) KU
      have q := set13_blk (h := ⟨id, qr, op, aa, tc, rd, ra, z, rc⟩) (h' := hdZ) (v0 := .slice y1 qs.length w1) (v1 := .slice y2 an.length w2) (v2 := .slice y3 ns.length w3) (v3 := .slice y4 ar.length w4) KU
      have qt := set13_turn u gr ⟨id, qr, op, aa, tc, rd, ra, z, rc⟩ (.slice y1 qs.length w1) (.slice y2 an.length w2) (.slice y3 ns.length w3) (.slice y4 ar.length w4)
      have HQ : Hid _ := And.intro q qt
      unfold hdZ at o0 o1 o2 o3 o4 o5 o6 o7 o8
      simp only at o0 o1 o2 o3 o4 o5 o6 o7 o8
      clear q qt KU
      go_simp
      obtain ⟨q, qt⟩ := HQ.out
      exact HK.out _ _ (.inr ⟨_, _, _, _, _, _, _, _, _, rfl, rfl, Turn.below (next HBW.out hbu) qt (next HBW.out hbu).size (fun i e => by omega), qt.blk (HKM.out.below hbu) hne, q, c1.turn qt hgr, c2.turn qt hgr, c3.turn qt hgr, c4.turn qt hgr⟩)
    | n + 20, hi, _, _ =>
      rw [Array.getD_eq_getD_getElem?, Array.getElem?_eq_none (by show 20 ≤ n + 20; omega)] at hi
      simp at hi
  · intro l a u hJ hr
    have hall : ∀ i, l.getD i true = true := ready_nil (by kernel_rfl) (by rcases hJ with ⟨p1, p2, p3, p4, q1, q2, q3, q4, d, b1, b2, b3, b4, r1, r2, r3, r4, bl, rfl, _⟩ | ⟨b1, b2, b3, b4, r1, r2, r3, r4, bl, rfl, _⟩ <;> rfl) hr
    rcases hJ with hJ | hJ
    · obtain ⟨p1, p2, p3, p4, q1, q2, q3, q4, d, b1, b2, b3, b4, r1, r2, r3, r4, bl, rfl, _⟩ := hJ
      exact absurd (show false = true from hall 19) (by decide)
    · obtain ⟨b1, b2, b3, b4, r1, r2, r3, r4, bl, rfl, rfl, hbu, _, kr, k1, k2, k3, k4⟩ := hJ
      obtain ⟨y1, w1, s1⟩ := row_slice k1.row
      obtain ⟨y2, w2, s2⟩ := row_slice k2.row
      obtain ⟨y3, w3, s3⟩ := row_slice k3.row
      obtain ⟨y4, w4, s4⟩ := row_slice k4.row
      subst s1 s2 s3 s4
      have HF : Hid (QRow u (.slice y1 qs.length w1) qs ∧ RRow u (.slice y2 an.length w2) an ∧ RRow u (.slice y3 ns.length w3) ns ∧ RRow u (.slice y4 ar.length w4) ar ∧ Below w.heap.size w u) := ⟨⟨k1.row, H0.out.2⟩, ⟨k2.row, H1.out.2⟩, ⟨k3.row, H2.out.2⟩, ⟨k4.row, H3.out.2⟩, hbu⟩
      obtain ⟨q0, q1, q2, q3, q4, q5, q6, q7, q8, q9, q10, q11, q12⟩ := blk13 (h := ⟨id, qr, op, aa, tc, rd, ra, z, rc⟩) kr
      simp only at q0 q1 q2 q3 q4 q5 q6 q7 q8
      clear kr k1 k2 k3 k4 hbu hall hr
      go_wp2
      refine bodyPost_ret (v := .agg #[.int .i64 id, .bool qr, .int .i64 op, .bool aa, .bool tc, .bool rd, .bool ra, .int .i64 z, .int .i64 rc, .slice y1 qs.length w1, .slice y2 an.length w2, .slice y3 ns.length w3, .slice y4 ar.length w4]) (by simp [results, Try.results7, go_sem, q0, q1, q2, q3, q4, q5, q6, q7, q8, q9, q10, q11, q12]) rfl ⟨y1, y2, y3, y4, w1, w2, w3, w4, rfl, HF.out⟩

end Go.Proofs.Ytnecdpieoipjdaa
