/- What Answer gives with an OPT. -/
import Derived.Test.YtcapankhobnfeaaXP11
namespace Go.Proofs.Ytcapankhobnfeaa
open Go.RowKit
open Pl

/-- The calls of the closure. -/
theorem fit1E (m : Ms) {w u : World} {gp go gs : Nat} {C D : Array Value} {most : Int} {S : ByteArray} {v0 v1 v2 v3 : Value} (A : AS w u gp go gs true C D most S) (T : ByteArray) (E : Int) (b : Bool) (h0 : QRow w v0 m.qs) (h1 : RRow w v1 m.an) (h2 : RRow w v2 m.ns) (h3 : RRow w v3 m.ar) (hn : m.ar.length ≤ 64) (hT : qT 468 m = T) (hE : qE 468 m = E) (hf : fitB T E most = b) :
    Calls Try.prog 33 #[.agg (msgC m.h v0 v1 v2 v3), .func (.func 45) #[] #[.pointer (some ⟨gp, 0, none⟩)], .pointer (some ⟨w.heap.size + 1, 0, none⟩), .pointer (some ⟨go, 0, none⟩)] u fun e u' => e = .returned (.bool b) ∧ AS w u' gp go gs true C D most (if b = true then T else S) := by
  subst hf
  refine (fitsP_any m (w.heap.size + 1) go gp most S v0 v1 v2 v3 T E u (h0.below A.below) (h1.below A.below) (h2.below A.below) (h3.below A.below) A.mst A.out (by rw [← hT]; exact q_size _ _) hn (A.pad rfl) hT hE).mono ?_
  rintro e u' ⟨rfl, o, t⟩
  exact ⟨rfl, A.step t o⟩

theorem fit3E (m : Ms) {w u : World} {gp go gs : Nat} {C D : Array Value} {most : Int} {S : ByteArray} {v0 v1 v2 v3 : Value} (A : AS w u gp go gs true C D most S) (T : ByteArray) (E : Int) (b : Bool) (h0 : QRow w v0 m.qs) (h1 : RRow w v1 m.an) (h2 : RRow w v2 m.ns) (h3 : RRow w v3 m.ar) (hn : m.ar.length ≤ 64) (hT : pT (withO m []) = T) (hE : pE (withO m []) = E) (hf : fitB T E most = b) :
    Calls Try.prog 33 #[.agg (msgC m.h v0 v1 v2 v3), .func (.func 32) #[] #[], .pointer (some ⟨w.heap.size + 1, 0, none⟩), .pointer (some ⟨go, 0, none⟩)] u fun e u' => e = .returned (.bool b) ∧ AS w u' gp go gs true C D most (if b = true then T else S) := by
  subst hf
  refine (fitsB_any m (w.heap.size + 1) go most S v0 v1 v2 v3 T E u (h0.below A.below) (h1.below A.below) (h2.below A.below) (h3.below A.below) A.mst A.out (by rw [← hT]; exact p_size _) hn hT hE).mono ?_
  rintro e u' ⟨rfl, o, t⟩
  exact ⟨rfl, A.step t o⟩

set_option maxRecDepth 20000 in
set_option maxHeartbeats 4000000 in
theorem answerE (m : Ms) (most : Int) (v0 v1 v2 v3 : Value) (T : ByteArray) (E : Int) (w : World) (h0 : QRow w v0 m.qs) (h1 : RRow w v1 m.an) (h2 : RRow w v2 m.ns) (h3 : RRow w v3 m.ar) (hr : refE m true = 0) (hT : ansT m true most = T) (hE : ansE m true most = E) :
    Calls Try.prog 12 #[.agg (msgC m.h v0 v1 v2 v3), .bool true, .int .i64 most] w fun e w' => e = .returned (.tuple #[.string T, .int .i64 E]) ∧ Below w.heap.size w w' := by
  have KR : ∀ u, Hid (Below w.heap.size w u) → _ := fun u hu => refusal_any m true v0 v1 v2 v3 0 u (h0.below hu.out) (h1.below hu.out) (h2.below hu.out) (h3.below hu.out) hr
  obtain ⟨hp0, hn0⟩ := ref_zero hr
  have hn : m.ar.length ≤ 64 := (may_few (p_yes hp0).1).2.2.2
  obtain ⟨T1, hT1⟩ : ∃ T1, f1T m true = T1 := ⟨_, rfl⟩
  obtain ⟨E1, hE1⟩ : ∃ E1, f1E m true = E1 := ⟨_, rfl⟩
  obtain ⟨T2, hT2⟩ : ∃ T2, f2T m true = T2 := ⟨_, rfl⟩
  obtain ⟨E2, hE2⟩ : ∃ E2, f2E m true = E2 := ⟨_, rfl⟩
  obtain ⟨T3, hT3⟩ : ∃ T3, f3T m true = T3 := ⟨_, rfl⟩
  obtain ⟨E3, hE3⟩ : ∃ E3, f3E m true = E3 := ⟨_, rfl⟩
  unfold ansT at hT
  unfold ansE at hE
  rw [if_pos hr, hT1, hE1, hT2, hE2, hT3, hE3] at hT
  rw [if_pos hr, hT1, hE1, hT2, hE2, hT3, hE3] at hE
  obtain ⟨b1, hb1⟩ : ∃ b1, fitB T1 E1 most = b1 := ⟨_, rfl⟩
  obtain ⟨b2, hb2⟩ : ∃ b2, fitB T2 E2 most = b2 := ⟨_, rfl⟩
  obtain ⟨b3, hb3⟩ : ∃ b3, fitB T3 E3 most = b3 := ⟨_, rfl⟩
  rw [hb1, hb2, hb3] at hT
  rw [hb1, hb2, hb3] at hE
  have K1 : ∀ (u : World) (gp go gs : Nat) (C D : Array Value) (S : ByteArray), AS w u gp go gs true C D most S → _ := fun u gp go gs C D S A => fit1E m A T1 E1 b1 h0 h1 h2 h3 hn hT1 hE1 hb1
  have K2 : ∀ (u : World) (gp go gs : Nat) (C D : Array Value) (S : ByteArray), AS w u gp go gs true C D most S → _ := fun u gp go gs C D S A => fit1E (cutM m) A T2 E2 b2 h0 (RRow.nil _) (RRow.nil _) (RRow.nil _) (by simp [cutM]) hT2 hE2 hb2
  have K3 : ∀ (u : World) (gp go gs : Nat) (C D : Array Value) (S : ByteArray), AS w u gp go gs true C D most S → _ := fun u gp go gs C D S A => fit3E (cutM m) A T3 E3 b3 h0 (RRow.nil _) (RRow.nil _) (RRow.nil _) (by simp [cutM]) hT3 hE3 hb3
  obtain ⟨x0, c0, rfl⟩ := row_slice h0.1
  obtain ⟨x1, c1, rfl⟩ := row_slice h1.1
  obtain ⟨x2, c2, rfl⟩ := row_slice h2.1
  obtain ⟨x3, c3, rfl⟩ := row_slice h3.1
  obtain ⟨hd, qs, an, ns, ar⟩ := m
  obtain ⟨id, qr, op, aa, tc, rd, ra, z, rc⟩ := hd
  obtain ⟨n0, hn0⟩ : ∃ n, n = qs.length := ⟨_, rfl⟩
  obtain ⟨n1, hn1⟩ : ∃ n, n = an.length := ⟨_, rfl⟩
  obtain ⟨n2, hn2⟩ : ∃ n, n = ns.length := ⟨_, rfl⟩
  obtain ⟨n3, hn3⟩ : ∃ n, n = ar.length := ⟨_, rfl⟩
  simp only [← hn0, ← hn1, ← hn2, ← hn3] at KR K1 K2 K3 ⊢
  have KB := (Blk.new w (msgC ⟨id, qr, op, aa, tc, rd, ra, z, rc⟩ (.slice x0 n0 c0) (.slice x1 n1 c1) (.slice x2 n2 c2) (.slice x3 n3 c3)) 29).alloc (.cells #[.int .i64 most] 3)
  have KM := Blk.new (w.alloc (.cells (msgC ⟨id, qr, op, aa, tc, rd, ra, z, rc⟩ (.slice x0 n0 c0) (.slice x1 n1 c1) (.slice x2 n2 c2) (.slice x3 n3 c3)) 29)) #[.int .i64 most] 3
  rw [World.size_alloc] at KM
  have hb := lay (lay (Below.refl w.heap.size w) (.cells (msgC ⟨id, qr, op, aa, tc, rd, ra, z, rc⟩ (.slice x0 n0 c0) (.slice x1 n1 c1) (.slice x2 n2 c2) (.slice x3 n3 c3)) 29)) (.cells #[.int .i64 most] 3)
  have KC := fun u => truncate_any id qr op aa tc rd ra z rc x0 x1 x2 x3 n0 n1 n2 n3 c0 c1 c2 c3 u
  have KT := fun u => padTo_any 468 u
  unfold padF at KT
  have hmf : ∀ (fn : Fn) (first cap : Array Value) (w : World), (Instr.makeFunc fn first cap).run Try.prog w = .ok (.func fn first cap) w := fun _ _ _ _ => rfl
  have t1 : True := trivial
  have t2 : True := trivial
  have t3 : True := trivial
  clear h0 h1 h2 h3 hr hT1 hE1 hT2 hE2 hT3 hE3 hb1 hb2 hb3 hp0 hn hn0 hn1 hn2 hn3
  unfold cutM at K2 K3
  unfold msgC at KR K1 K2 K3 hb KB KM ⊢
  simp only at KR K1 K2 K3 hb KB KM ⊢
  have HT : Hid ((if b1 = true then T1 else if b2 = true then T2 else if b3 = true then T3 else ⟨#[]⟩) = T ∧ (if b1 = true then (0 : Int) else if b2 = true then 0 else if b3 = true then 0 else 1001) = E) := ⟨hT, hE⟩
  clear hT hE
  cases b1 with
  | true =>
    obtain ⟨hT, hE⟩ := HT.out
    simp only [if_true] at hT hE K1
    have HF : Hid (T1 = T ∧ (0 : Int) = E) := ⟨hT, hE⟩
    clear hT hE HT
    go_enter Try.func12, Try.ntmps12
    go_wp2_with (first
    | (go_at_call 30; go_must (refine (KR _ hb).mono ?_); rintro e w0 ⟨rfl, b⟩; replace KB := KB.below b; replace KM := KM.below b; replace hb := next hb b; clear b)
    | (go_at_call 25; go_must (refine (KT _).mono ?_); rintro e w1 ⟨rfl, KP, b⟩; replace KB := KB.below b; replace KM := KM.below b; replace hb := next hb b; obtain ⟨d0, d1, d2, d3, d4, d5, d6, d7, d8, d9, d10, d11, d12⟩ := blk13 (h := ⟨id, qr, op, aa, tc, rd, ra, z, rc⟩) (KB.alloc (.cells #[.string ⟨#[]⟩] 9)); simp only at d0 d1 d2 d3 d4 d5 d6 d7 d8; clear b)
    | (go_at_call 34; go_must (refine (KC _).mono ?_); rintro e w3 ⟨rfl, b⟩; clear d0 d1 d2 d3 d4 d5 d6 d7 d8 d9 d10 d11 d12; have A0 : Hid (AS w (w3.alloc (.cells #[.int .i64 id, .bool qr, .int .i64 op, .bool aa, .bool true, .bool rd, .bool ra, .int .i64 z, .int .i64 rc, .slice x0 n0 c0, .slice none 0 0, .slice none 0 0, .slice none 0 0] 29)) w0.heap.size w1.heap.size w3.heap.size true #[.int .i64 id, .bool qr, .int .i64 op, .bool aa, .bool tc, .bool rd, .bool ra, .int .i64 z, .int .i64 rc, .slice x0 n0 c0, .slice x1 n1 c1, .slice x2 n2 c2, .slice x3 n3 c3] #[.int .i64 id, .bool qr, .int .i64 op, .bool aa, .bool true, .bool rd, .bool ra, .int .i64 z, .int .i64 rc, .slice x0 n0 c0, .slice none 0 0, .slice none 0 0, .slice none 0 0] most ⟨#[]⟩) := as_new (pd := true) hb KB KM (fun _ => KP) b; obtain ⟨d0, d1, d2, d3, d4, d5, d6, d7, d8, d9, d10, d11, d12⟩ := blk13 (h := ⟨id, qr, op, aa, tc, rd, ra, z, rc⟩) (A0.out.msg); simp only at d0 d1 d2 d3 d4 d5 d6 d7 d8; clear b)
    | (go_at_call 33; have _t := t1; go_must (refine (K1 _ _ _ _ _ _ _ A0.out).mono ?_); rintro e w4 ⟨rfl, a4⟩; clear d0 d1 d2 d3 d4 d5 d6 d7 d8 d9 d10 d11 d12; have A4 : Hid (AS w w4 w0.heap.size w1.heap.size w3.heap.size true #[.int .i64 id, .bool qr, .int .i64 op, .bool aa, .bool tc, .bool rd, .bool ra, .int .i64 z, .int .i64 rc, .slice x0 n0 c0, .slice x1 n1 c1, .slice x2 n2 c2, .slice x3 n3 c3] #[.int .i64 id, .bool qr, .int .i64 op, .bool aa, .bool true, .bool rd, .bool ra, .int .i64 z, .int .i64 rc, .slice x0 n0 c0, .slice none 0 0, .slice none 0 0, .slice none 0 0] most T1) := a4; have o0 : w4.cell? ⟨w1.heap.size, 0, none⟩ = some (.string T1) := A4.out.out.cell 0; clear a4 t1 _t))
    go_ret2
    exact ⟨by rw [← HF.out.1, ← HF.out.2]; rfl, A4.out.below⟩
  | false =>
    cases b2 with
    | true =>
      obtain ⟨hT, hE⟩ := HT.out
      simp only [if_true, Bool.false_eq_true, if_false] at hT hE K1 K2
      have HF : Hid (T2 = T ∧ (0 : Int) = E) := ⟨hT, hE⟩
      clear hT hE HT
      go_enter Try.func12, Try.ntmps12
      go_wp2_with (first
    | (go_at_call 30; go_must (refine (KR _ hb).mono ?_); rintro e w0 ⟨rfl, b⟩; replace KB := KB.below b; replace KM := KM.below b; replace hb := next hb b; clear b)
    | (go_at_call 25; go_must (refine (KT _).mono ?_); rintro e w1 ⟨rfl, KP, b⟩; replace KB := KB.below b; replace KM := KM.below b; replace hb := next hb b; obtain ⟨d0, d1, d2, d3, d4, d5, d6, d7, d8, d9, d10, d11, d12⟩ := blk13 (h := ⟨id, qr, op, aa, tc, rd, ra, z, rc⟩) (KB.alloc (.cells #[.string ⟨#[]⟩] 9)); simp only at d0 d1 d2 d3 d4 d5 d6 d7 d8; clear b)
    | (go_at_call 34; go_must (refine (KC _).mono ?_); rintro e w3 ⟨rfl, b⟩; clear d0 d1 d2 d3 d4 d5 d6 d7 d8 d9 d10 d11 d12; have A0 : Hid (AS w (w3.alloc (.cells #[.int .i64 id, .bool qr, .int .i64 op, .bool aa, .bool true, .bool rd, .bool ra, .int .i64 z, .int .i64 rc, .slice x0 n0 c0, .slice none 0 0, .slice none 0 0, .slice none 0 0] 29)) w0.heap.size w1.heap.size w3.heap.size true #[.int .i64 id, .bool qr, .int .i64 op, .bool aa, .bool tc, .bool rd, .bool ra, .int .i64 z, .int .i64 rc, .slice x0 n0 c0, .slice x1 n1 c1, .slice x2 n2 c2, .slice x3 n3 c3] #[.int .i64 id, .bool qr, .int .i64 op, .bool aa, .bool true, .bool rd, .bool ra, .int .i64 z, .int .i64 rc, .slice x0 n0 c0, .slice none 0 0, .slice none 0 0, .slice none 0 0] most ⟨#[]⟩) := as_new (pd := true) hb KB KM (fun _ => KP) b; obtain ⟨d0, d1, d2, d3, d4, d5, d6, d7, d8, d9, d10, d11, d12⟩ := blk13 (h := ⟨id, qr, op, aa, tc, rd, ra, z, rc⟩) (A0.out.msg); simp only at d0 d1 d2 d3 d4 d5 d6 d7 d8; clear b)
    | (go_at_call 33; have _t := t1; go_must (refine (K1 _ _ _ _ _ _ _ A0.out).mono ?_); rintro e w4 ⟨rfl, a4⟩; clear d0 d1 d2 d3 d4 d5 d6 d7 d8 d9 d10 d11 d12; have A4 : Hid (AS w w4 w0.heap.size w1.heap.size w3.heap.size true #[.int .i64 id, .bool qr, .int .i64 op, .bool aa, .bool tc, .bool rd, .bool ra, .int .i64 z, .int .i64 rc, .slice x0 n0 c0, .slice x1 n1 c1, .slice x2 n2 c2, .slice x3 n3 c3] #[.int .i64 id, .bool qr, .int .i64 op, .bool aa, .bool true, .bool rd, .bool ra, .int .i64 z, .int .i64 rc, .slice x0 n0 c0, .slice none 0 0, .slice none 0 0, .slice none 0 0] most ⟨#[]⟩) := a4; obtain ⟨d0, d1, d2, d3, d4, d5, d6, d7, d8, d9, d10, d11, d12⟩ := blk13 (h := ⟨id, qr, op, aa, true, rd, ra, z, rc⟩) (A4.out.sht); simp only at d0 d1 d2 d3 d4 d5 d6 d7 d8; clear a4 t1 _t)
    | (go_at_call 33; have _t := t2; go_must (refine (K2 _ _ _ _ _ _ _ A4.out).mono ?_); rintro e w5 ⟨rfl, a5⟩; clear d0 d1 d2 d3 d4 d5 d6 d7 d8 d9 d10 d11 d12; have A5 : Hid (AS w w5 w0.heap.size w1.heap.size w3.heap.size true #[.int .i64 id, .bool qr, .int .i64 op, .bool aa, .bool tc, .bool rd, .bool ra, .int .i64 z, .int .i64 rc, .slice x0 n0 c0, .slice x1 n1 c1, .slice x2 n2 c2, .slice x3 n3 c3] #[.int .i64 id, .bool qr, .int .i64 op, .bool aa, .bool true, .bool rd, .bool ra, .int .i64 z, .int .i64 rc, .slice x0 n0 c0, .slice none 0 0, .slice none 0 0, .slice none 0 0] most T2) := a5; have o0 : w5.cell? ⟨w1.heap.size, 0, none⟩ = some (.string T2) := A5.out.out.cell 0; clear a5 t2 _t))
      go_ret2
      exact ⟨by rw [← HF.out.1, ← HF.out.2]; rfl, A5.out.below⟩
    | false =>
      cases b3 with
      | true =>
        obtain ⟨hT, hE⟩ := HT.out
        simp only [if_true, Bool.false_eq_true, if_false] at hT hE K1 K2 K3
        have HF : Hid (T3 = T ∧ (0 : Int) = E) := ⟨hT, hE⟩
        clear hT hE HT
        go_enter Try.func12, Try.ntmps12
        go_wp2_with (first
    | (go_at_call 30; go_must (refine (KR _ hb).mono ?_); rintro e w0 ⟨rfl, b⟩; replace KB := KB.below b; replace KM := KM.below b; replace hb := next hb b; clear b)
    | (go_at_call 25; go_must (refine (KT _).mono ?_); rintro e w1 ⟨rfl, KP, b⟩; replace KB := KB.below b; replace KM := KM.below b; replace hb := next hb b; obtain ⟨d0, d1, d2, d3, d4, d5, d6, d7, d8, d9, d10, d11, d12⟩ := blk13 (h := ⟨id, qr, op, aa, tc, rd, ra, z, rc⟩) (KB.alloc (.cells #[.string ⟨#[]⟩] 9)); simp only at d0 d1 d2 d3 d4 d5 d6 d7 d8; clear b)
    | (go_at_call 34; go_must (refine (KC _).mono ?_); rintro e w3 ⟨rfl, b⟩; clear d0 d1 d2 d3 d4 d5 d6 d7 d8 d9 d10 d11 d12; have A0 : Hid (AS w (w3.alloc (.cells #[.int .i64 id, .bool qr, .int .i64 op, .bool aa, .bool true, .bool rd, .bool ra, .int .i64 z, .int .i64 rc, .slice x0 n0 c0, .slice none 0 0, .slice none 0 0, .slice none 0 0] 29)) w0.heap.size w1.heap.size w3.heap.size true #[.int .i64 id, .bool qr, .int .i64 op, .bool aa, .bool tc, .bool rd, .bool ra, .int .i64 z, .int .i64 rc, .slice x0 n0 c0, .slice x1 n1 c1, .slice x2 n2 c2, .slice x3 n3 c3] #[.int .i64 id, .bool qr, .int .i64 op, .bool aa, .bool true, .bool rd, .bool ra, .int .i64 z, .int .i64 rc, .slice x0 n0 c0, .slice none 0 0, .slice none 0 0, .slice none 0 0] most ⟨#[]⟩) := as_new (pd := true) hb KB KM (fun _ => KP) b; obtain ⟨d0, d1, d2, d3, d4, d5, d6, d7, d8, d9, d10, d11, d12⟩ := blk13 (h := ⟨id, qr, op, aa, tc, rd, ra, z, rc⟩) (A0.out.msg); simp only at d0 d1 d2 d3 d4 d5 d6 d7 d8; clear b)
    | (go_at_call 33; have _t := t1; go_must (refine (K1 _ _ _ _ _ _ _ A0.out).mono ?_); rintro e w4 ⟨rfl, a4⟩; clear d0 d1 d2 d3 d4 d5 d6 d7 d8 d9 d10 d11 d12; have A4 : Hid (AS w w4 w0.heap.size w1.heap.size w3.heap.size true #[.int .i64 id, .bool qr, .int .i64 op, .bool aa, .bool tc, .bool rd, .bool ra, .int .i64 z, .int .i64 rc, .slice x0 n0 c0, .slice x1 n1 c1, .slice x2 n2 c2, .slice x3 n3 c3] #[.int .i64 id, .bool qr, .int .i64 op, .bool aa, .bool true, .bool rd, .bool ra, .int .i64 z, .int .i64 rc, .slice x0 n0 c0, .slice none 0 0, .slice none 0 0, .slice none 0 0] most ⟨#[]⟩) := a4; obtain ⟨d0, d1, d2, d3, d4, d5, d6, d7, d8, d9, d10, d11, d12⟩ := blk13 (h := ⟨id, qr, op, aa, true, rd, ra, z, rc⟩) (A4.out.sht); simp only at d0 d1 d2 d3 d4 d5 d6 d7 d8; clear a4 t1 _t)
    | (go_at_call 33; have _t := t2; go_must (refine (K2 _ _ _ _ _ _ _ A4.out).mono ?_); rintro e w5 ⟨rfl, a5⟩; clear d0 d1 d2 d3 d4 d5 d6 d7 d8 d9 d10 d11 d12; have A5 : Hid (AS w w5 w0.heap.size w1.heap.size w3.heap.size true #[.int .i64 id, .bool qr, .int .i64 op, .bool aa, .bool tc, .bool rd, .bool ra, .int .i64 z, .int .i64 rc, .slice x0 n0 c0, .slice x1 n1 c1, .slice x2 n2 c2, .slice x3 n3 c3] #[.int .i64 id, .bool qr, .int .i64 op, .bool aa, .bool true, .bool rd, .bool ra, .int .i64 z, .int .i64 rc, .slice x0 n0 c0, .slice none 0 0, .slice none 0 0, .slice none 0 0] most ⟨#[]⟩) := a5; obtain ⟨d0, d1, d2, d3, d4, d5, d6, d7, d8, d9, d10, d11, d12⟩ := blk13 (h := ⟨id, qr, op, aa, true, rd, ra, z, rc⟩) (A5.out.sht); simp only at d0 d1 d2 d3 d4 d5 d6 d7 d8; clear a5 t2 _t)
    | (go_at_call 33; have _t := t3; go_must (refine (K3 _ _ _ _ _ _ _ A5.out).mono ?_); rintro e w6 ⟨rfl, a6⟩; clear d0 d1 d2 d3 d4 d5 d6 d7 d8 d9 d10 d11 d12; have A6 : Hid (AS w w6 w0.heap.size w1.heap.size w3.heap.size true #[.int .i64 id, .bool qr, .int .i64 op, .bool aa, .bool tc, .bool rd, .bool ra, .int .i64 z, .int .i64 rc, .slice x0 n0 c0, .slice x1 n1 c1, .slice x2 n2 c2, .slice x3 n3 c3] #[.int .i64 id, .bool qr, .int .i64 op, .bool aa, .bool true, .bool rd, .bool ra, .int .i64 z, .int .i64 rc, .slice x0 n0 c0, .slice none 0 0, .slice none 0 0, .slice none 0 0] most T3) := a6; have o0 : w6.cell? ⟨w1.heap.size, 0, none⟩ = some (.string T3) := A6.out.out.cell 0; clear a6 t3 _t))
        go_ret2
        exact ⟨by rw [← HF.out.1, ← HF.out.2]; rfl, A6.out.below⟩
      | false =>
        obtain ⟨hT, hE⟩ := HT.out
        simp only [Bool.false_eq_true, if_false] at hT hE K1 K2 K3
        have HF : Hid (⟨#[]⟩ = T ∧ (1001 : Int) = E) := ⟨hT, hE⟩
        clear hT hE HT
        go_enter Try.func12, Try.ntmps12
        go_wp2_with (first
    | (go_at_call 30; go_must (refine (KR _ hb).mono ?_); rintro e w0 ⟨rfl, b⟩; replace KB := KB.below b; replace KM := KM.below b; replace hb := next hb b; clear b)
    | (go_at_call 25; go_must (refine (KT _).mono ?_); rintro e w1 ⟨rfl, KP, b⟩; replace KB := KB.below b; replace KM := KM.below b; replace hb := next hb b; obtain ⟨d0, d1, d2, d3, d4, d5, d6, d7, d8, d9, d10, d11, d12⟩ := blk13 (h := ⟨id, qr, op, aa, tc, rd, ra, z, rc⟩) (KB.alloc (.cells #[.string ⟨#[]⟩] 9)); simp only at d0 d1 d2 d3 d4 d5 d6 d7 d8; clear b)
    | (go_at_call 34; go_must (refine (KC _).mono ?_); rintro e w3 ⟨rfl, b⟩; clear d0 d1 d2 d3 d4 d5 d6 d7 d8 d9 d10 d11 d12; have A0 : Hid (AS w (w3.alloc (.cells #[.int .i64 id, .bool qr, .int .i64 op, .bool aa, .bool true, .bool rd, .bool ra, .int .i64 z, .int .i64 rc, .slice x0 n0 c0, .slice none 0 0, .slice none 0 0, .slice none 0 0] 29)) w0.heap.size w1.heap.size w3.heap.size true #[.int .i64 id, .bool qr, .int .i64 op, .bool aa, .bool tc, .bool rd, .bool ra, .int .i64 z, .int .i64 rc, .slice x0 n0 c0, .slice x1 n1 c1, .slice x2 n2 c2, .slice x3 n3 c3] #[.int .i64 id, .bool qr, .int .i64 op, .bool aa, .bool true, .bool rd, .bool ra, .int .i64 z, .int .i64 rc, .slice x0 n0 c0, .slice none 0 0, .slice none 0 0, .slice none 0 0] most ⟨#[]⟩) := as_new (pd := true) hb KB KM (fun _ => KP) b; obtain ⟨d0, d1, d2, d3, d4, d5, d6, d7, d8, d9, d10, d11, d12⟩ := blk13 (h := ⟨id, qr, op, aa, tc, rd, ra, z, rc⟩) (A0.out.msg); simp only at d0 d1 d2 d3 d4 d5 d6 d7 d8; clear b)
    | (go_at_call 33; have _t := t1; go_must (refine (K1 _ _ _ _ _ _ _ A0.out).mono ?_); rintro e w4 ⟨rfl, a4⟩; clear d0 d1 d2 d3 d4 d5 d6 d7 d8 d9 d10 d11 d12; have A4 : Hid (AS w w4 w0.heap.size w1.heap.size w3.heap.size true #[.int .i64 id, .bool qr, .int .i64 op, .bool aa, .bool tc, .bool rd, .bool ra, .int .i64 z, .int .i64 rc, .slice x0 n0 c0, .slice x1 n1 c1, .slice x2 n2 c2, .slice x3 n3 c3] #[.int .i64 id, .bool qr, .int .i64 op, .bool aa, .bool true, .bool rd, .bool ra, .int .i64 z, .int .i64 rc, .slice x0 n0 c0, .slice none 0 0, .slice none 0 0, .slice none 0 0] most ⟨#[]⟩) := a4; obtain ⟨d0, d1, d2, d3, d4, d5, d6, d7, d8, d9, d10, d11, d12⟩ := blk13 (h := ⟨id, qr, op, aa, true, rd, ra, z, rc⟩) (A4.out.sht); simp only at d0 d1 d2 d3 d4 d5 d6 d7 d8; clear a4 t1 _t)
    | (go_at_call 33; have _t := t2; go_must (refine (K2 _ _ _ _ _ _ _ A4.out).mono ?_); rintro e w5 ⟨rfl, a5⟩; clear d0 d1 d2 d3 d4 d5 d6 d7 d8 d9 d10 d11 d12; have A5 : Hid (AS w w5 w0.heap.size w1.heap.size w3.heap.size true #[.int .i64 id, .bool qr, .int .i64 op, .bool aa, .bool tc, .bool rd, .bool ra, .int .i64 z, .int .i64 rc, .slice x0 n0 c0, .slice x1 n1 c1, .slice x2 n2 c2, .slice x3 n3 c3] #[.int .i64 id, .bool qr, .int .i64 op, .bool aa, .bool true, .bool rd, .bool ra, .int .i64 z, .int .i64 rc, .slice x0 n0 c0, .slice none 0 0, .slice none 0 0, .slice none 0 0] most ⟨#[]⟩) := a5; obtain ⟨d0, d1, d2, d3, d4, d5, d6, d7, d8, d9, d10, d11, d12⟩ := blk13 (h := ⟨id, qr, op, aa, true, rd, ra, z, rc⟩) (A5.out.sht); simp only at d0 d1 d2 d3 d4 d5 d6 d7 d8; clear a5 t2 _t)
    | (go_at_call 33; have _t := t3; go_must (refine (K3 _ _ _ _ _ _ _ A5.out).mono ?_); rintro e w6 ⟨rfl, a6⟩; clear d0 d1 d2 d3 d4 d5 d6 d7 d8 d9 d10 d11 d12; have A6 : Hid (AS w w6 w0.heap.size w1.heap.size w3.heap.size true #[.int .i64 id, .bool qr, .int .i64 op, .bool aa, .bool tc, .bool rd, .bool ra, .int .i64 z, .int .i64 rc, .slice x0 n0 c0, .slice x1 n1 c1, .slice x2 n2 c2, .slice x3 n3 c3] #[.int .i64 id, .bool qr, .int .i64 op, .bool aa, .bool true, .bool rd, .bool ra, .int .i64 z, .int .i64 rc, .slice x0 n0 c0, .slice none 0 0, .slice none 0 0, .slice none 0 0] most ⟨#[]⟩) := a6; clear a6 t3 _t))
        go_ret2
        exact ⟨by rw [← HF.out.1, ← HF.out.2]; rfl, A6.out.below⟩

end Go.Proofs.Ytcapankhobnfeaa
