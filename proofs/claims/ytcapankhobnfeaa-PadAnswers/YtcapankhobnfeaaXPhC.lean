/- PadAnswers' walks: no answer with an OPT. -/
import Derived.Test.YtcapankhobnfeaaXP14
import Derived.Test.YtcapankhobnfeaaXPhB
import Derived.Test.YtcapankhobnfeaaXOpS
import Derived.Test.YtcapankhobnfeaaXWjH
import Derived.Test.YtcapankhobnfeaaXPfA
namespace Go.Proofs.Ytcapankhobnfeaa.padAnswers
open Go.RowKit
open Pl

set_option maxRecDepth 20000 in
set_option maxHeartbeats 4000000 in
theorem w00 (id : Int) (qr : Bool) (op : Int) (aa tc rd ra : Bool) (z rc : Int) (qs : List Qn) (an ns ar : List Rc) (x0 x1 x2 x3 : Option Addr) (c0 c1 c2 c3 : Nat) (most : Int) (c : Nat) (hc : bits .and .i64 most 4095 = (c : Int)) (hcl : c ≤ 4095) (w : World) (h0 : QRow w (.slice x0 qs.length c0) qs) (h1 : RRow w (.slice x1 an.length c1) an) (h2 : RRow w (.slice x2 ns.length c2) ns) (h3 : RRow w (.slice x3 ar.length c3) ar)
    (E1 : Int) (he1 : E1 ≠ 0) (E2 : Int) (he2 : E2 ≠ 0) (hT1 : ansT ⟨⟨id, qr, op, aa, tc, rd, ra, z, rc⟩, qs, an, ns, ar⟩ true (12 + (c : Int)) = ⟨#[]⟩) (hE1 : ansE ⟨⟨id, qr, op, aa, tc, rd, ra, z, rc⟩, qs, an, ns, ar⟩ true (12 + (c : Int)) = E1) (hT2 : ansT ⟨⟨id, qr, op, aa, tc, rd, ra, z, rc⟩, qs, an, ns, ar⟩ false (12 + (c : Int)) = ⟨#[]⟩) (hE2 : ansE ⟨⟨id, qr, op, aa, tc, rd, ra, z, rc⟩, qs, an, ns, ar⟩ false (12 + (c : Int)) = E2) :
    Calls Try.prog 6 #[.agg #[.int .i64 id, .bool qr, .int .i64 op, .bool aa, .bool tc, .bool rd, .bool ra, .int .i64 z, .int .i64 rc, .slice x0 qs.length c0, .slice x1 an.length c1, .slice x2 ns.length c2, .slice x3 ar.length c3], .int .i64 most] w fun e w' => e = .returned (.bool true) ∧ Below w.heap.size w w' := by
  have A1 : ∀ u, Hid (Below w.heap.size w u) → _ := fun u hu => answer_any ⟨⟨id, qr, op, aa, tc, rd, ra, z, rc⟩, qs, an, ns, ar⟩ true (12 + (c : Int)) _ _ _ _ ⟨#[]⟩ E1 u (h0.below hu.out) (h1.below hu.out) (h2.below hu.out) (h3.below hu.out) hT1 hE1
  have A2 : ∀ u, Hid (Below w.heap.size w u) → _ := fun u hu => answer_any ⟨⟨id, qr, op, aa, tc, rd, ra, z, rc⟩, qs, an, ns, ar⟩ false (12 + (c : Int)) _ _ _ _ ⟨#[]⟩ E2 u (h0.below hu.out) (h1.below hu.out) (h2.below hu.out) (h3.below hu.out) hT2 hE2
  unfold msgC at A1 A2
  simp only at A1 A2
  have H0 : Hid (QRow w (.slice x0 qs.length c0) qs) := h0
  have H1 : Hid (RRow w (.slice x1 an.length c1) an) := h1
  have H2 : Hid (RRow w (.slice x2 ns.length c2) ns) := h2
  have H3 : Hid (RRow w (.slice x3 ar.length c3) ar) := h3
  have KB : Blk (w.alloc (.cells #[.int .i64 id, .bool qr, .int .i64 op, .bool aa, .bool tc, .bool rd, .bool ra, .int .i64 z, .int .i64 rc, .slice x0 qs.length c0, .slice x1 an.length c1, .slice x2 ns.length c2, .slice x3 ar.length c3] 29)) w.heap.size #[.int .i64 id, .bool qr, .int .i64 op, .bool aa, .bool tc, .bool rd, .bool ra, .int .i64 z, .int .i64 rc, .slice x0 qs.length c0, .slice x1 an.length c1, .slice x2 ns.length c2, .slice x3 ar.length c3] 29 := Blk.new w _ _
  have hb := lay (Below.refl w.heap.size w) (.cells #[.int .i64 id, .bool qr, .int .i64 op, .bool aa, .bool tc, .bool rd, .bool ra, .int .i64 z, .int .i64 rc, .slice x0 qs.length c0, .slice x1 an.length c1, .slice x2 ns.length c2, .slice x3 ar.length c3] 29)
  have t1 : True := trivial
  have t2 : True := trivial
  clear h0 h1 h2 h3 hT1 hE1 hT2 hE2
  go_enter Try.func6, Try.ntmps6
  go_wp2_with (first
    | (go_at_call 18; go_must (refine (awake_any _).mono ?_); rintro e w0 ⟨rfl, bb⟩; replace KB := KB.below bb; replace hb := next hb bb; obtain ⟨d0, d1, d2, d3, d4, d5, d6, d7, d8, d9, d10, d11, d12⟩ := blk13 (h := ⟨id, qr, op, aa, tc, rd, ra, z, rc⟩) (KB); simp only at d0 d1 d2 d3 d4 d5 d6 d7 d8; clear bb)
    | (go_at_call 12; have _t := t1; go_must (refine (A1 _ hb).mono ?_); rintro e w1 ⟨rfl, bb⟩; replace KB := KB.below bb; replace hb := next hb bb; clear d0 d1 d2 d3 d4 d5 d6 d7 d8 d9 d10 d11 d12; obtain ⟨d0, d1, d2, d3, d4, d5, d6, d7, d8, d9, d10, d11, d12⟩ := blk13 (h := ⟨id, qr, op, aa, tc, rd, ra, z, rc⟩) (KB); simp only at d0 d1 d2 d3 d4 d5 d6 d7 d8; clear bb t1 _t)
    | (go_at_call 12; go_must (refine (A2 _ hb).mono ?_); rintro e w2 ⟨rfl, bb⟩; replace KB := KB.below bb; replace hb := next hb bb; clear bb d0 d1 d2 d3 d4 d5 d6 d7 d8 d9 d10 d11 d12)
    | (go_at_call 14; refine (num_any _ _).mono ?_; rintro e w' ⟨rfl, hw⟩; obtain rfl := hw.symm))
  go_ret
  exact ⟨ret_bool (by simp), hb⟩

set_option maxRecDepth 20000 in
set_option maxHeartbeats 4000000 in
theorem w01 (id : Int) (qr : Bool) (op : Int) (aa tc rd ra : Bool) (z rc : Int) (qs : List Qn) (an ns ar : List Rc) (x0 x1 x2 x3 : Option Addr) (c0 c1 c2 c3 : Nat) (most : Int) (c : Nat) (hc : bits .and .i64 most 4095 = (c : Int)) (hcl : c ≤ 4095) (w : World) (h0 : QRow w (.slice x0 qs.length c0) qs) (h1 : RRow w (.slice x1 an.length c1) an) (h2 : RRow w (.slice x2 ns.length c2) ns) (h3 : RRow w (.slice x3 ar.length c3) ar)
    (E1 : Int) (he1 : E1 ≠ 0) (T2 : ByteArray) (hz2 : T2.size ≤ 4096) (hl2 : (T2.size : Int) ≤ 12 + (c : Int)) (hg2 : gM T2 = ⟨⟨id, qr, op, aa, tc, rd, ra, z, rc⟩, qs, an, ns, ar⟩ ∧ gE T2 = 0) (hmm : mayM ⟨⟨id, qr, op, aa, tc, rd, ra, z, rc⟩, qs, an, ns, ar⟩ = true) (hT1 : ansT ⟨⟨id, qr, op, aa, tc, rd, ra, z, rc⟩, qs, an, ns, ar⟩ true (12 + (c : Int)) = ⟨#[]⟩) (hE1 : ansE ⟨⟨id, qr, op, aa, tc, rd, ra, z, rc⟩, qs, an, ns, ar⟩ true (12 + (c : Int)) = E1) (hT2 : ansT ⟨⟨id, qr, op, aa, tc, rd, ra, z, rc⟩, qs, an, ns, ar⟩ false (12 + (c : Int)) = T2) (hE2 : ansE ⟨⟨id, qr, op, aa, tc, rd, ra, z, rc⟩, qs, an, ns, ar⟩ false (12 + (c : Int)) = 0) :
    Calls Try.prog 6 #[.agg #[.int .i64 id, .bool qr, .int .i64 op, .bool aa, .bool tc, .bool rd, .bool ra, .int .i64 z, .int .i64 rc, .slice x0 qs.length c0, .slice x1 an.length c1, .slice x2 ns.length c2, .slice x3 ar.length c3], .int .i64 most] w fun e w' => e = .returned (.bool true) ∧ Below w.heap.size w w' := by
  have A1 : ∀ u, Hid (Below w.heap.size w u) → _ := fun u hu => answer_any ⟨⟨id, qr, op, aa, tc, rd, ra, z, rc⟩, qs, an, ns, ar⟩ true (12 + (c : Int)) _ _ _ _ ⟨#[]⟩ E1 u (h0.below hu.out) (h1.below hu.out) (h2.below hu.out) (h3.below hu.out) hT1 hE1
  have A2 : ∀ u, Hid (Below w.heap.size w u) → _ := fun u hu => answer_any ⟨⟨id, qr, op, aa, tc, rd, ra, z, rc⟩, qs, an, ns, ar⟩ false (12 + (c : Int)) _ _ _ _ T2 0 u (h0.below hu.out) (h1.below hu.out) (h2.below hu.out) (h3.below hu.out) hT2 hE2
  unfold msgC at A1 A2
  simp only at A1 A2
  have H0 : Hid (QRow w (.slice x0 qs.length c0) qs) := h0
  have H1 : Hid (RRow w (.slice x1 an.length c1) an) := h1
  have H2 : Hid (RRow w (.slice x2 ns.length c2) ns) := h2
  have H3 : Hid (RRow w (.slice x3 ar.length c3) ar) := h3
  have KB : Blk (w.alloc (.cells #[.int .i64 id, .bool qr, .int .i64 op, .bool aa, .bool tc, .bool rd, .bool ra, .int .i64 z, .int .i64 rc, .slice x0 qs.length c0, .slice x1 an.length c1, .slice x2 ns.length c2, .slice x3 ar.length c3] 29)) w.heap.size #[.int .i64 id, .bool qr, .int .i64 op, .bool aa, .bool tc, .bool rd, .bool ra, .int .i64 z, .int .i64 rc, .slice x0 qs.length c0, .slice x1 an.length c1, .slice x2 ns.length c2, .slice x3 ar.length c3] 29 := Blk.new w _ _
  have hb := lay (Below.refl w.heap.size w) (.cells #[.int .i64 id, .bool qr, .int .i64 op, .bool aa, .bool tc, .bool rd, .bool ra, .int .i64 z, .int .i64 rc, .slice x0 qs.length c0, .slice x1 an.length c1, .slice x2 ns.length c2, .slice x3 ar.length c3] 29)
  have t1 : True := trivial
  have t2 : True := trivial
  have G2 := fun u => rget_h T2 id qr op aa tc rd ra z rc qs an ns ar 0 u (small100 (by omega)) hg2
  have HF2 : Hid (qs.length ≤ 64 ∧ an.length ≤ 64 ∧ ns.length ≤ 64 ∧ ar.length ≤ 64) := may_few hmm
  clear h0 h1 h2 h3 hT1 hE1 hT2 hE2 hg2 hmm
  go_enter Try.func6, Try.ntmps6
  go_wp2_with (first
    | (go_at_call 18; go_must (refine (awake_any _).mono ?_); rintro e w0 ⟨rfl, bb⟩; replace KB := KB.below bb; replace hb := next hb bb; obtain ⟨d0, d1, d2, d3, d4, d5, d6, d7, d8, d9, d10, d11, d12⟩ := blk13 (h := ⟨id, qr, op, aa, tc, rd, ra, z, rc⟩) (KB); simp only at d0 d1 d2 d3 d4 d5 d6 d7 d8; clear bb)
    | (go_at_call 12; have _t := t1; go_must (refine (A1 _ hb).mono ?_); rintro e w1 ⟨rfl, bb⟩; replace KB := KB.below bb; replace hb := next hb bb; clear d0 d1 d2 d3 d4 d5 d6 d7 d8 d9 d10 d11 d12; obtain ⟨d0, d1, d2, d3, d4, d5, d6, d7, d8, d9, d10, d11, d12⟩ := blk13 (h := ⟨id, qr, op, aa, tc, rd, ra, z, rc⟩) (KB); simp only at d0 d1 d2 d3 d4 d5 d6 d7 d8; clear bb t1 _t)
    | (go_at_call 12; go_must (refine (A2 _ hb).mono ?_); rintro e w2 ⟨rfl, bb⟩; replace KB := KB.below bb; replace hb := next hb bb; clear bb d0 d1 d2 d3 d4 d5 d6 d7 d8 d9 d10 d11 d12)
    | (go_at_call 19; go_must (refine (G2 _).mono ?_); rintro e w5 ⟨f0, f1, f2, f3, q0, q1, q2, q3, g0, g1, g2, g3, rfl, oo2, bb⟩; replace KB := (KB.below bb).alloc (.cells #[.int .i64 id, .bool qr, .int .i64 op, .bool aa, .bool tc, .bool rd, .bool ra, .int .i64 z, .int .i64 rc, .slice f0 q0 g0, .slice f1 q1 g1, .slice f2 q2 g2, .slice f3 q3 g3] 29); have hb5 := next hb bb; have KZ : Blk (w5.alloc (.cells #[.int .i64 id, .bool qr, .int .i64 op, .bool aa, .bool tc, .bool rd, .bool ra, .int .i64 z, .int .i64 rc, .slice f0 q0 g0, .slice f1 q1 g1, .slice f2 q2 g2, .slice f3 q3 g3] 29)) w5.heap.size #[.int .i64 id, .bool qr, .int .i64 op, .bool aa, .bool tc, .bool rd, .bool ra, .int .i64 z, .int .i64 rc, .slice f0 q0 g0, .slice f1 q1 g1, .slice f2 q2 g2, .slice f3 q3 g3] 29 := Blk.new w5 _ _; have MA : Hid (MR (w5.alloc (.cells #[.int .i64 id, .bool qr, .int .i64 op, .bool aa, .bool tc, .bool rd, .bool ra, .int .i64 z, .int .i64 rc, .slice f0 q0 g0, .slice f1 q1 g1, .slice f2 q2 g2, .slice f3 q3 g3] 29)) (.slice f0 q0 g0) (.slice f1 q1 g1) (.slice f2 q2 g2) (.slice f3 q3 g3) ⟨⟨id, qr, op, aa, tc, rd, ra, z, rc⟩, qs, an, ns, ar⟩) := (oo2.mr HF2.out).below (lay (Below.refl _ _) _); replace hb := lay hb5 (.cells #[.int .i64 id, .bool qr, .int .i64 op, .bool aa, .bool tc, .bool rd, .bool ra, .int .i64 z, .int .i64 rc, .slice f0 q0 g0, .slice f1 q1 g1, .slice f2 q2 g2, .slice f3 q3 g3] 29); obtain ⟨d0, d1, d2, d3, d4, d5, d6, d7, d8, d9, d10, d11, d12⟩ := blk13 (h := ⟨id, qr, op, aa, tc, rd, ra, z, rc⟩) (KB); simp only at d0 d1 d2 d3 d4 d5 d6 d7 d8; clear bb oo2 hb5)
    | (go_at_call 15; go_must (refine (same_h id qr op aa tc rd ra z rc qs an ns ar _ _ _ _ _ _ _ _ _ MA.out (MRow.mr (m := ⟨⟨id, qr, op, aa, tc, rd, ra, z, rc⟩, qs, an, ns, ar⟩) (H0.out.below hb) (H1.out.below hb) (H2.out.below hb) (H3.out.below hb))).mono ?_); rintro e w6 ⟨rfl, bb⟩; replace hb := next hb bb; clear bb)
    | (go_at_call 14; refine (num_any _ _).mono ?_; rintro e w' ⟨rfl, hw⟩; obtain rfl := hw.symm))
  go_ret
  exact ⟨ret_bool (by simp), hb⟩

set_option maxRecDepth 20000 in
set_option maxHeartbeats 4000000 in
theorem w02 (id : Int) (qr : Bool) (op : Int) (aa tc rd ra : Bool) (z rc : Int) (qs : List Qn) (an ns ar : List Rc) (x0 x1 x2 x3 : Option Addr) (c0 c1 c2 c3 : Nat) (most : Int) (c : Nat) (hc : bits .and .i64 most 4095 = (c : Int)) (hcl : c ≤ 4095) (w : World) (h0 : QRow w (.slice x0 qs.length c0) qs) (h1 : RRow w (.slice x1 an.length c1) an) (h2 : RRow w (.slice x2 ns.length c2) ns) (h3 : RRow w (.slice x3 ar.length c3) ar)
    (E1 : Int) (he1 : E1 ≠ 0) (T2 : ByteArray) (hz2 : T2.size ≤ 4096) (hl2 : (T2.size : Int) ≤ 12 + (c : Int)) (hg2 : gM T2 = ⟨⟨id, qr, op, aa, true, rd, ra, z, rc⟩, qs, [], [], []⟩ ∧ gE T2 = 0) (hsb : (tc && decide (an.length = 0) && decide (ns.length = 0) && decide (ar.length = 0)) = true) (hmm : mayM ⟨⟨id, qr, op, aa, tc, rd, ra, z, rc⟩, qs, an, ns, ar⟩ = true) (hT1 : ansT ⟨⟨id, qr, op, aa, tc, rd, ra, z, rc⟩, qs, an, ns, ar⟩ true (12 + (c : Int)) = ⟨#[]⟩) (hE1 : ansE ⟨⟨id, qr, op, aa, tc, rd, ra, z, rc⟩, qs, an, ns, ar⟩ true (12 + (c : Int)) = E1) (hT2 : ansT ⟨⟨id, qr, op, aa, tc, rd, ra, z, rc⟩, qs, an, ns, ar⟩ false (12 + (c : Int)) = T2) (hE2 : ansE ⟨⟨id, qr, op, aa, tc, rd, ra, z, rc⟩, qs, an, ns, ar⟩ false (12 + (c : Int)) = 0) :
    Calls Try.prog 6 #[.agg #[.int .i64 id, .bool qr, .int .i64 op, .bool aa, .bool tc, .bool rd, .bool ra, .int .i64 z, .int .i64 rc, .slice x0 qs.length c0, .slice x1 an.length c1, .slice x2 ns.length c2, .slice x3 ar.length c3], .int .i64 most] w fun e w' => e = .returned (.bool true) ∧ Below w.heap.size w w' := by
  have A1 : ∀ u, Hid (Below w.heap.size w u) → _ := fun u hu => answer_any ⟨⟨id, qr, op, aa, tc, rd, ra, z, rc⟩, qs, an, ns, ar⟩ true (12 + (c : Int)) _ _ _ _ ⟨#[]⟩ E1 u (h0.below hu.out) (h1.below hu.out) (h2.below hu.out) (h3.below hu.out) hT1 hE1
  have A2 : ∀ u, Hid (Below w.heap.size w u) → _ := fun u hu => answer_any ⟨⟨id, qr, op, aa, tc, rd, ra, z, rc⟩, qs, an, ns, ar⟩ false (12 + (c : Int)) _ _ _ _ T2 0 u (h0.below hu.out) (h1.below hu.out) (h2.below hu.out) (h3.below hu.out) hT2 hE2
  unfold msgC at A1 A2
  simp only at A1 A2
  have H0 : Hid (QRow w (.slice x0 qs.length c0) qs) := h0
  have H1 : Hid (RRow w (.slice x1 an.length c1) an) := h1
  have H2 : Hid (RRow w (.slice x2 ns.length c2) ns) := h2
  have H3 : Hid (RRow w (.slice x3 ar.length c3) ar) := h3
  have KB : Blk (w.alloc (.cells #[.int .i64 id, .bool qr, .int .i64 op, .bool aa, .bool tc, .bool rd, .bool ra, .int .i64 z, .int .i64 rc, .slice x0 qs.length c0, .slice x1 an.length c1, .slice x2 ns.length c2, .slice x3 ar.length c3] 29)) w.heap.size #[.int .i64 id, .bool qr, .int .i64 op, .bool aa, .bool tc, .bool rd, .bool ra, .int .i64 z, .int .i64 rc, .slice x0 qs.length c0, .slice x1 an.length c1, .slice x2 ns.length c2, .slice x3 ar.length c3] 29 := Blk.new w _ _
  have hb := lay (Below.refl w.heap.size w) (.cells #[.int .i64 id, .bool qr, .int .i64 op, .bool aa, .bool tc, .bool rd, .bool ra, .int .i64 z, .int .i64 rc, .slice x0 qs.length c0, .slice x1 an.length c1, .slice x2 ns.length c2, .slice x3 ar.length c3] 29)
  have t1 : True := trivial
  have t2 : True := trivial
  have G2 := fun u => rget_h T2 id qr op aa true rd ra z rc qs [] [] [] 0 u (small100 (by omega)) hg2
  have HF2 : Hid (qs.length ≤ 64 ∧ an.length ≤ 64 ∧ ns.length ≤ 64 ∧ ar.length ≤ 64) := may_few hmm
  have SC : ∀ (y0 y1 y2 y3 : Option Addr) (d0 d1 d2 d3 : Nat) (u : World), Hid (Below w.heap.size w u) → Hid (Row u (.slice y0 qs.length d0) qs.length (qC qs) ∧ Row u (.slice y1 0 d1) 0 [] ∧ Row u (.slice y2 0 d2) 0 [] ∧ Row u (.slice y3 0 d3) 0 []) → _ := fun y0 y1 y2 y3 d0 d1 d2 d3 u hu hr => same_cut id qr op aa tc rd ra z rc qs an ns ar x0 x1 x2 x3 y0 y1 y2 y3 c0 c1 c2 c3 d0 d1 d2 d3 u hr.out.1 (H0.out.1.below hu.out) (H1.out.1.below hu.out) (H2.out.1.below hu.out) (H3.out.1.below hu.out) hr.out.2.1 hr.out.2.2.1 hr.out.2.2.2 HF2.out.1 HF2.out.2.1 HF2.out.2.2.1 HF2.out.2.2.2
  rw [hsb] at SC
  clear h0 h1 h2 h3 hT1 hE1 hT2 hE2 hg2 hmm hsb
  go_enter Try.func6, Try.ntmps6
  go_wp2_with (first
    | (go_at_call 18; go_must (refine (awake_any _).mono ?_); rintro e w0 ⟨rfl, bb⟩; replace KB := KB.below bb; replace hb := next hb bb; obtain ⟨d0, d1, d2, d3, d4, d5, d6, d7, d8, d9, d10, d11, d12⟩ := blk13 (h := ⟨id, qr, op, aa, tc, rd, ra, z, rc⟩) (KB); simp only at d0 d1 d2 d3 d4 d5 d6 d7 d8; clear bb)
    | (go_at_call 12; have _t := t1; go_must (refine (A1 _ hb).mono ?_); rintro e w1 ⟨rfl, bb⟩; replace KB := KB.below bb; replace hb := next hb bb; clear d0 d1 d2 d3 d4 d5 d6 d7 d8 d9 d10 d11 d12; obtain ⟨d0, d1, d2, d3, d4, d5, d6, d7, d8, d9, d10, d11, d12⟩ := blk13 (h := ⟨id, qr, op, aa, tc, rd, ra, z, rc⟩) (KB); simp only at d0 d1 d2 d3 d4 d5 d6 d7 d8; clear bb t1 _t)
    | (go_at_call 12; go_must (refine (A2 _ hb).mono ?_); rintro e w2 ⟨rfl, bb⟩; replace KB := KB.below bb; replace hb := next hb bb; clear bb d0 d1 d2 d3 d4 d5 d6 d7 d8 d9 d10 d11 d12)
    | (go_at_call 19; go_must (refine (G2 _).mono ?_); rintro e w5 ⟨f0, f1, f2, f3, q0, q1, q2, q3, g0, g1, g2, g3, rfl, oo2, bb⟩; obtain rfl := own_num oo2.q; obtain rfl := own_nil oo2.an; obtain rfl := own_nil oo2.ns; obtain rfl := own_nil oo2.ar; replace KB := (KB.below bb).alloc (.cells #[.int .i64 id, .bool qr, .int .i64 op, .bool aa, .bool true, .bool rd, .bool ra, .int .i64 z, .int .i64 rc, .slice f0 qs.length g0, .slice f1 0 g1, .slice f2 0 g2, .slice f3 0 g3] 29); have hb5 := next hb bb; have KZ : Blk (w5.alloc (.cells #[.int .i64 id, .bool qr, .int .i64 op, .bool aa, .bool true, .bool rd, .bool ra, .int .i64 z, .int .i64 rc, .slice f0 qs.length g0, .slice f1 0 g1, .slice f2 0 g2, .slice f3 0 g3] 29)) w5.heap.size #[.int .i64 id, .bool qr, .int .i64 op, .bool aa, .bool true, .bool rd, .bool ra, .int .i64 z, .int .i64 rc, .slice f0 qs.length g0, .slice f1 0 g1, .slice f2 0 g2, .slice f3 0 g3] 29 := Blk.new w5 _ _; have MA : Hid (Row (w5.alloc (.cells #[.int .i64 id, .bool qr, .int .i64 op, .bool aa, .bool true, .bool rd, .bool ra, .int .i64 z, .int .i64 rc, .slice f0 qs.length g0, .slice f1 0 g1, .slice f2 0 g2, .slice f3 0 g3] 29)) (.slice f0 qs.length g0) qs.length (qC qs) ∧ Row (w5.alloc (.cells #[.int .i64 id, .bool qr, .int .i64 op, .bool aa, .bool true, .bool rd, .bool ra, .int .i64 z, .int .i64 rc, .slice f0 qs.length g0, .slice f1 0 g1, .slice f2 0 g2, .slice f3 0 g3] 29)) (.slice f1 0 g1) 0 [] ∧ Row (w5.alloc (.cells #[.int .i64 id, .bool qr, .int .i64 op, .bool aa, .bool true, .bool rd, .bool ra, .int .i64 z, .int .i64 rc, .slice f0 qs.length g0, .slice f1 0 g1, .slice f2 0 g2, .slice f3 0 g3] 29)) (.slice f2 0 g2) 0 [] ∧ Row (w5.alloc (.cells #[.int .i64 id, .bool qr, .int .i64 op, .bool aa, .bool true, .bool rd, .bool ra, .int .i64 z, .int .i64 rc, .slice f0 qs.length g0, .slice f1 0 g1, .slice f2 0 g2, .slice f3 0 g3] 29)) (.slice f3 0 g3) 0 []) := ⟨(Row.of_own oo2.q).below (lay (Below.refl _ _) _), (Row.of_own oo2.an).below (lay (Below.refl _ _) _), (Row.of_own oo2.ns).below (lay (Below.refl _ _) _), (Row.of_own oo2.ar).below (lay (Below.refl _ _) _)⟩; replace hb := lay hb5 (.cells #[.int .i64 id, .bool qr, .int .i64 op, .bool aa, .bool true, .bool rd, .bool ra, .int .i64 z, .int .i64 rc, .slice f0 qs.length g0, .slice f1 0 g1, .slice f2 0 g2, .slice f3 0 g3] 29); obtain ⟨d0, d1, d2, d3, d4, d5, d6, d7, d8, d9, d10, d11, d12⟩ := blk13 (h := ⟨id, qr, op, aa, tc, rd, ra, z, rc⟩) (KB); simp only at d0 d1 d2 d3 d4 d5 d6 d7 d8; clear bb oo2 hb5)
    | (go_at_call 15; go_must (refine (SC _ _ _ _ _ _ _ _ _ hb MA).mono ?_); rintro e w6 ⟨rfl, bb⟩; replace hb := next hb bb; replace KB := KB.below bb; replace KZ := KZ.below bb; have MQ : Hid (Row w6 (.slice f0 qs.length g0) qs.length (qC qs)) := MA.out.1.below bb; clear d0 d1 d2 d3 d4 d5 d6 d7 d8 d9 d10 d11 d12; obtain ⟨e0, e1, e2, e3, e4, e5, e6, e7, e8, e9, e10, e11, e12⟩ := blk13 (h := ⟨id, qr, op, aa, true, rd, ra, z, rc⟩) (KZ); simp only at e0 e1 e2 e3 e4 e5 e6 e7 e8; have d9 : w6.cell? ⟨w.heap.size, 9, none⟩ = some (.slice x0 qs.length c0) := KB.cell 9; clear bb)
    | (go_at_call 14; refine (num_any _ _).mono ?_; rintro e w' ⟨rfl, hw⟩; obtain rfl := hw.symm))
  go_ret
  exact ⟨ret_bool (by simp), hb⟩

set_option maxRecDepth 20000 in
set_option maxHeartbeats 4000000 in
theorem w03 (id : Int) (qr : Bool) (op : Int) (aa tc rd ra : Bool) (z rc : Int) (qs : List Qn) (an ns ar : List Rc) (x0 x1 x2 x3 : Option Addr) (c0 c1 c2 c3 : Nat) (most : Int) (c : Nat) (hc : bits .and .i64 most 4095 = (c : Int)) (hcl : c ≤ 4095) (w : World) (h0 : QRow w (.slice x0 qs.length c0) qs) (h1 : RRow w (.slice x1 an.length c1) an) (h2 : RRow w (.slice x2 ns.length c2) ns) (h3 : RRow w (.slice x3 ar.length c3) ar)
    (E1 : Int) (he1 : E1 ≠ 0) (T2 : ByteArray) (hz2 : T2.size ≤ 4096) (hl2 : (T2.size : Int) ≤ 12 + (c : Int)) (hg2 : gM T2 = ⟨⟨id, qr, op, aa, true, rd, ra, z, rc⟩, qs, [], [], []⟩ ∧ gE T2 = 0) (hsb : (tc && decide (an.length = 0) && decide (ns.length = 0) && decide (ar.length = 0)) = false) (hmm : mayM ⟨⟨id, qr, op, aa, tc, rd, ra, z, rc⟩, qs, an, ns, ar⟩ = true) (hT1 : ansT ⟨⟨id, qr, op, aa, tc, rd, ra, z, rc⟩, qs, an, ns, ar⟩ true (12 + (c : Int)) = ⟨#[]⟩) (hE1 : ansE ⟨⟨id, qr, op, aa, tc, rd, ra, z, rc⟩, qs, an, ns, ar⟩ true (12 + (c : Int)) = E1) (hT2 : ansT ⟨⟨id, qr, op, aa, tc, rd, ra, z, rc⟩, qs, an, ns, ar⟩ false (12 + (c : Int)) = T2) (hE2 : ansE ⟨⟨id, qr, op, aa, tc, rd, ra, z, rc⟩, qs, an, ns, ar⟩ false (12 + (c : Int)) = 0) :
    Calls Try.prog 6 #[.agg #[.int .i64 id, .bool qr, .int .i64 op, .bool aa, .bool tc, .bool rd, .bool ra, .int .i64 z, .int .i64 rc, .slice x0 qs.length c0, .slice x1 an.length c1, .slice x2 ns.length c2, .slice x3 ar.length c3], .int .i64 most] w fun e w' => e = .returned (.bool true) ∧ Below w.heap.size w w' := by
  have A1 : ∀ u, Hid (Below w.heap.size w u) → _ := fun u hu => answer_any ⟨⟨id, qr, op, aa, tc, rd, ra, z, rc⟩, qs, an, ns, ar⟩ true (12 + (c : Int)) _ _ _ _ ⟨#[]⟩ E1 u (h0.below hu.out) (h1.below hu.out) (h2.below hu.out) (h3.below hu.out) hT1 hE1
  have A2 : ∀ u, Hid (Below w.heap.size w u) → _ := fun u hu => answer_any ⟨⟨id, qr, op, aa, tc, rd, ra, z, rc⟩, qs, an, ns, ar⟩ false (12 + (c : Int)) _ _ _ _ T2 0 u (h0.below hu.out) (h1.below hu.out) (h2.below hu.out) (h3.below hu.out) hT2 hE2
  unfold msgC at A1 A2
  simp only at A1 A2
  have H0 : Hid (QRow w (.slice x0 qs.length c0) qs) := h0
  have H1 : Hid (RRow w (.slice x1 an.length c1) an) := h1
  have H2 : Hid (RRow w (.slice x2 ns.length c2) ns) := h2
  have H3 : Hid (RRow w (.slice x3 ar.length c3) ar) := h3
  have KB : Blk (w.alloc (.cells #[.int .i64 id, .bool qr, .int .i64 op, .bool aa, .bool tc, .bool rd, .bool ra, .int .i64 z, .int .i64 rc, .slice x0 qs.length c0, .slice x1 an.length c1, .slice x2 ns.length c2, .slice x3 ar.length c3] 29)) w.heap.size #[.int .i64 id, .bool qr, .int .i64 op, .bool aa, .bool tc, .bool rd, .bool ra, .int .i64 z, .int .i64 rc, .slice x0 qs.length c0, .slice x1 an.length c1, .slice x2 ns.length c2, .slice x3 ar.length c3] 29 := Blk.new w _ _
  have hb := lay (Below.refl w.heap.size w) (.cells #[.int .i64 id, .bool qr, .int .i64 op, .bool aa, .bool tc, .bool rd, .bool ra, .int .i64 z, .int .i64 rc, .slice x0 qs.length c0, .slice x1 an.length c1, .slice x2 ns.length c2, .slice x3 ar.length c3] 29)
  have t1 : True := trivial
  have t2 : True := trivial
  have G2 := fun u => rget_h T2 id qr op aa true rd ra z rc qs [] [] [] 0 u (small100 (by omega)) hg2
  have HF2 : Hid (qs.length ≤ 64 ∧ an.length ≤ 64 ∧ ns.length ≤ 64 ∧ ar.length ≤ 64) := may_few hmm
  have SC : ∀ (y0 y1 y2 y3 : Option Addr) (d0 d1 d2 d3 : Nat) (u : World), Hid (Below w.heap.size w u) → Hid (Row u (.slice y0 qs.length d0) qs.length (qC qs) ∧ Row u (.slice y1 0 d1) 0 [] ∧ Row u (.slice y2 0 d2) 0 [] ∧ Row u (.slice y3 0 d3) 0 []) → _ := fun y0 y1 y2 y3 d0 d1 d2 d3 u hu hr => same_cut id qr op aa tc rd ra z rc qs an ns ar x0 x1 x2 x3 y0 y1 y2 y3 c0 c1 c2 c3 d0 d1 d2 d3 u hr.out.1 (H0.out.1.below hu.out) (H1.out.1.below hu.out) (H2.out.1.below hu.out) (H3.out.1.below hu.out) hr.out.2.1 hr.out.2.2.1 hr.out.2.2.2 HF2.out.1 HF2.out.2.1 HF2.out.2.2.1 HF2.out.2.2.2
  rw [hsb] at SC
  clear h0 h1 h2 h3 hT1 hE1 hT2 hE2 hg2 hmm hsb
  go_enter Try.func6, Try.ntmps6
  go_wp2_with (first
    | (go_at_call 18; go_must (refine (awake_any _).mono ?_); rintro e w0 ⟨rfl, bb⟩; replace KB := KB.below bb; replace hb := next hb bb; obtain ⟨d0, d1, d2, d3, d4, d5, d6, d7, d8, d9, d10, d11, d12⟩ := blk13 (h := ⟨id, qr, op, aa, tc, rd, ra, z, rc⟩) (KB); simp only at d0 d1 d2 d3 d4 d5 d6 d7 d8; clear bb)
    | (go_at_call 12; have _t := t1; go_must (refine (A1 _ hb).mono ?_); rintro e w1 ⟨rfl, bb⟩; replace KB := KB.below bb; replace hb := next hb bb; clear d0 d1 d2 d3 d4 d5 d6 d7 d8 d9 d10 d11 d12; obtain ⟨d0, d1, d2, d3, d4, d5, d6, d7, d8, d9, d10, d11, d12⟩ := blk13 (h := ⟨id, qr, op, aa, tc, rd, ra, z, rc⟩) (KB); simp only at d0 d1 d2 d3 d4 d5 d6 d7 d8; clear bb t1 _t)
    | (go_at_call 12; go_must (refine (A2 _ hb).mono ?_); rintro e w2 ⟨rfl, bb⟩; replace KB := KB.below bb; replace hb := next hb bb; clear bb d0 d1 d2 d3 d4 d5 d6 d7 d8 d9 d10 d11 d12)
    | (go_at_call 19; go_must (refine (G2 _).mono ?_); rintro e w5 ⟨f0, f1, f2, f3, q0, q1, q2, q3, g0, g1, g2, g3, rfl, oo2, bb⟩; obtain rfl := own_num oo2.q; obtain rfl := own_nil oo2.an; obtain rfl := own_nil oo2.ns; obtain rfl := own_nil oo2.ar; replace KB := (KB.below bb).alloc (.cells #[.int .i64 id, .bool qr, .int .i64 op, .bool aa, .bool true, .bool rd, .bool ra, .int .i64 z, .int .i64 rc, .slice f0 qs.length g0, .slice f1 0 g1, .slice f2 0 g2, .slice f3 0 g3] 29); have hb5 := next hb bb; have KZ : Blk (w5.alloc (.cells #[.int .i64 id, .bool qr, .int .i64 op, .bool aa, .bool true, .bool rd, .bool ra, .int .i64 z, .int .i64 rc, .slice f0 qs.length g0, .slice f1 0 g1, .slice f2 0 g2, .slice f3 0 g3] 29)) w5.heap.size #[.int .i64 id, .bool qr, .int .i64 op, .bool aa, .bool true, .bool rd, .bool ra, .int .i64 z, .int .i64 rc, .slice f0 qs.length g0, .slice f1 0 g1, .slice f2 0 g2, .slice f3 0 g3] 29 := Blk.new w5 _ _; have MA : Hid (Row (w5.alloc (.cells #[.int .i64 id, .bool qr, .int .i64 op, .bool aa, .bool true, .bool rd, .bool ra, .int .i64 z, .int .i64 rc, .slice f0 qs.length g0, .slice f1 0 g1, .slice f2 0 g2, .slice f3 0 g3] 29)) (.slice f0 qs.length g0) qs.length (qC qs) ∧ Row (w5.alloc (.cells #[.int .i64 id, .bool qr, .int .i64 op, .bool aa, .bool true, .bool rd, .bool ra, .int .i64 z, .int .i64 rc, .slice f0 qs.length g0, .slice f1 0 g1, .slice f2 0 g2, .slice f3 0 g3] 29)) (.slice f1 0 g1) 0 [] ∧ Row (w5.alloc (.cells #[.int .i64 id, .bool qr, .int .i64 op, .bool aa, .bool true, .bool rd, .bool ra, .int .i64 z, .int .i64 rc, .slice f0 qs.length g0, .slice f1 0 g1, .slice f2 0 g2, .slice f3 0 g3] 29)) (.slice f2 0 g2) 0 [] ∧ Row (w5.alloc (.cells #[.int .i64 id, .bool qr, .int .i64 op, .bool aa, .bool true, .bool rd, .bool ra, .int .i64 z, .int .i64 rc, .slice f0 qs.length g0, .slice f1 0 g1, .slice f2 0 g2, .slice f3 0 g3] 29)) (.slice f3 0 g3) 0 []) := ⟨(Row.of_own oo2.q).below (lay (Below.refl _ _) _), (Row.of_own oo2.an).below (lay (Below.refl _ _) _), (Row.of_own oo2.ns).below (lay (Below.refl _ _) _), (Row.of_own oo2.ar).below (lay (Below.refl _ _) _)⟩; replace hb := lay hb5 (.cells #[.int .i64 id, .bool qr, .int .i64 op, .bool aa, .bool true, .bool rd, .bool ra, .int .i64 z, .int .i64 rc, .slice f0 qs.length g0, .slice f1 0 g1, .slice f2 0 g2, .slice f3 0 g3] 29); obtain ⟨d0, d1, d2, d3, d4, d5, d6, d7, d8, d9, d10, d11, d12⟩ := blk13 (h := ⟨id, qr, op, aa, tc, rd, ra, z, rc⟩) (KB); simp only at d0 d1 d2 d3 d4 d5 d6 d7 d8; clear bb oo2 hb5)
    | (go_at_call 15; go_must (refine (SC _ _ _ _ _ _ _ _ _ hb MA).mono ?_); rintro e w6 ⟨rfl, bb⟩; replace hb := next hb bb; replace KB := KB.below bb; replace KZ := KZ.below bb; have MQ : Hid (Row w6 (.slice f0 qs.length g0) qs.length (qC qs)) := MA.out.1.below bb; clear d0 d1 d2 d3 d4 d5 d6 d7 d8 d9 d10 d11 d12; obtain ⟨e0, e1, e2, e3, e4, e5, e6, e7, e8, e9, e10, e11, e12⟩ := blk13 (h := ⟨id, qr, op, aa, true, rd, ra, z, rc⟩) (KZ); simp only at e0 e1 e2 e3 e4 e5 e6 e7 e8; have d9 : w6.cell? ⟨w.heap.size, 9, none⟩ = some (.slice x0 qs.length c0) := KB.cell 9; clear bb)
    | (go_at_call 23; go_must (refine (sameQ_yes _ _ qs _ MQ.out (H0.out.1.below hb) (small100 (by have := HF2.out; omega))).mono ?_); rintro e w7 ⟨rfl, bb⟩; replace hb := next hb bb; clear bb)
    | (go_at_call 14; refine (num_any _ _).mono ?_; rintro e w' ⟨rfl, hw⟩; obtain rfl := hw.symm))
  go_ret
  exact ⟨ret_bool (by simp), hb⟩

end Go.Proofs.Ytcapankhobnfeaa.padAnswers
