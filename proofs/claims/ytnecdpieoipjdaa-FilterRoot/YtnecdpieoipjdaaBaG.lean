/- What Filter gives, by letters: the message and the error, whatever the cut. -/
import Derived.Test.YtnecdpieoipjdaaBaD
import Derived.Test.YtnecdpieoipjdaaBaF
namespace Go.Proofs.Ytnecdpieoipjdaa
open Go.RowKit
open Pl

/-- What Filter answers: a message, an error. -/
def fM (c : List UInt8) (m : Ms) : Ms := if isName c = true then kpM c m else msZ
def fE (c : List UInt8) : Int := if isName c = true then 0 else 1200
theorem fM_yes {c : List UInt8} (h : isName c = true) (m : Ms) : fM c m = kpM c m := if_pos h
theorem fM_no {c : List UInt8} (h : isName c = false) (m : Ms) : fM c m = msZ := if_neg (by simp [h])
theorem fE_yes {c : List UInt8} (h : isName c = true) : fE c = 0 := if_pos h
theorem fE_no {c : List UInt8} (h : isName c = false) : fE c = 1200 := if_neg (by simp [h])
theorem Fits.fm {m : Ms} (h : Fits m) (c : List UInt8) : Fits (fM c m) := by
  unfold fM
  split
  · exact h.kp c
  · exact Fits.none
theorem kp_root {r : Rc} : kpB [0] r = (decide (r.c = 1) && isName r.n.data.toList) := by
  unfold kpB
  congr 1
  cases h : isName r.n.data.toList with
  | true => exact above_root h
  | false =>
    cases h2 : aboveB [0] r.n.data.toList with
    | false => rfl
    | true => rw [(above_iff.1 h2).2.1] at h; cases h
theorem Own.mr {B : Nat} {w : World} {v0 v1 v2 v3 : Value} {m : Ms} (h : Own B w v0 v1 v2 v3 m) (f : Fits m) : MR w v0 v1 v2 v3 m := by
  have h1 := f.q
  have h2 := f.an
  have h3 := f.ns
  have h4 := f.ar
  exact ⟨Row.of_own h.q, Row.of_own h.an, Row.of_own h.ns, Row.of_own h.ar, by unfold maxLen; omega, by unfold maxLen; omega, by unfold maxLen; omega, by unfold maxLen; omega⟩
theorem mr_of {w : World} {v0 v1 v2 v3 : Value} {m : Ms} (f : Fits m) (h0 : Row w v0 m.qs.length (qC m.qs)) (h1 : Row w v1 m.an.length (rC m.an)) (h2 : Row w v2 m.ns.length (rC m.ns)) (h3 : Row w v3 m.ar.length (rC m.ar)) : MR w v0 v1 v2 v3 m := by
  have g1 := f.q
  have g2 := f.an
  have g3 := f.ns
  have g4 := f.ar
  exact ⟨h0, h1, h2, h3, by unfold maxLen; omega, by unfold maxLen; omega, by unfold maxLen; omega, by unfold maxLen; omega⟩

theorem filter_any (c : ByteArray) (id : Int) (qr : Bool) (op : Int) (aa tc rd ra : Bool) (z rc : Int) (qs : List Qn) (an ns ar : List Rc) (v0 v1 v2 v3 : Value) (w : World) (jd : Int) (jq : Bool) (jo : Int) (ja jt jr jv : Bool) (jz jc : Int) (qs2 : List Qn) (an2 ns2 ar2 : List Rc) (E : Int) (h0 : Row w v0 qs.length (qC qs)) (h1 : Row w v1 an.length (rC an)) (h2 : Row w v2 ns.length (rC ns)) (h3 : Row w v3 ar.length (rC ar)) (hF : Fits ⟨⟨id, qr, op, aa, tc, rd, ra, z, rc⟩, qs, an, ns, ar⟩) (hc : c.size ≤ maxLen) (hM : ⟨⟨jd, jq, jo, ja, jt, jr, jv, jz, jc⟩, qs2, an2, ns2, ar2⟩ = fM c.data.toList ⟨⟨id, qr, op, aa, tc, rd, ra, z, rc⟩, qs, an, ns, ar⟩) (hE : E = fE c.data.toList) :
    Calls Try.prog 8 #[.agg #[.int .i64 id, .bool qr, .int .i64 op, .bool aa, .bool tc, .bool rd, .bool ra, .int .i64 z, .int .i64 rc, v0, v1, v2, v3], .string c] w fun e w' => ∃ (y0 y1 y2 y3 : Option Addr) (k0 k1 k2 k3 : Nat), e = .returned (.tuple #[.agg #[.int .i64 jd, .bool jq, .int .i64 jo, .bool ja, .bool jt, .bool jr, .bool jv, .int .i64 jz, .int .i64 jc, .slice y0 qs2.length k0, .slice y1 an2.length k1, .slice y2 ns2.length k2, .slice y3 ar2.length k3], .int .i64 E]) ∧ Own w.heap.size w' (.slice y0 qs2.length k0) (.slice y1 an2.length k1) (.slice y2 ns2.length k2) (.slice y3 ar2.length k3) ⟨⟨jd, jq, jo, ja, jt, jr, jv, jz, jc⟩, qs2, an2, ns2, ar2⟩ ∧ Below w.heap.size w w' := by
  cases hn : isName c.data.toList with
  | true =>
    rw [fM_yes hn] at hM
    rw [fE_yes hn] at hE
    simp only [kpM, Ms.mk.injEq, Hd.mk.injEq] at hM
    obtain ⟨⟨rfl, rfl, rfl, rfl, rfl, rfl, rfl, rfl, rfl⟩, rfl, rfl, rfl, rfl⟩ := hM
    subst hE
    exact filter_yes c _ _ _ _ _ _ _ _ _ _ _ _ _ _ _ _ _ _ h0 h1 h2 h3 hF hc hn
  | false =>
    rw [fM_no hn] at hM
    rw [fE_no hn] at hE
    simp only [msZ, hdZ, Ms.mk.injEq, Hd.mk.injEq] at hM
    obtain ⟨⟨rfl, rfl, rfl, rfl, rfl, rfl, rfl, rfl, rfl⟩, rfl, rfl, rfl, rfl⟩ := hM
    subst hE
    refine (filter_no c id qr op aa tc rd ra z rc qs an ns ar v0 v1 v2 v3 w h0 h1 h2 h3 hc hn).mono ?_
    rintro e w' ⟨rfl, hb⟩
    exact ⟨none, none, none, none, 0, 0, 0, 0, rfl, Own.none _ _, hb⟩

theorem refFilter_any (c : ByteArray) (id : Int) (qr : Bool) (op : Int) (aa tc rd ra : Bool) (z rc : Int) (qs : List Qn) (an ns ar : List Rc) (v0 v1 v2 v3 : Value) (w : World) (jd : Int) (jq : Bool) (jo : Int) (ja jt jr jv : Bool) (jz jc : Int) (qs2 : List Qn) (an2 ns2 ar2 : List Rc) (E : Int) (h0 : Row w v0 qs.length (qC qs)) (h1 : Row w v1 an.length (rC an)) (h2 : Row w v2 ns.length (rC ns)) (h3 : Row w v3 ar.length (rC ar)) (hF : Fits ⟨⟨id, qr, op, aa, tc, rd, ra, z, rc⟩, qs, an, ns, ar⟩) (hc : c.size ≤ maxLen) (hM : ⟨⟨jd, jq, jo, ja, jt, jr, jv, jz, jc⟩, qs2, an2, ns2, ar2⟩ = fM c.data.toList ⟨⟨id, qr, op, aa, tc, rd, ra, z, rc⟩, qs, an, ns, ar⟩) (hE : E = fE c.data.toList) :
    Calls Try.prog 9 #[.agg #[.int .i64 id, .bool qr, .int .i64 op, .bool aa, .bool tc, .bool rd, .bool ra, .int .i64 z, .int .i64 rc, v0, v1, v2, v3], .string c] w fun e w' => ∃ (y0 y1 y2 y3 : Option Addr) (k0 k1 k2 k3 : Nat), e = .returned (.tuple #[.agg #[.int .i64 jd, .bool jq, .int .i64 jo, .bool ja, .bool jt, .bool jr, .bool jv, .int .i64 jz, .int .i64 jc, .slice y0 qs2.length k0, .slice y1 an2.length k1, .slice y2 ns2.length k2, .slice y3 ar2.length k3], .int .i64 E]) ∧ MR w' (.slice y0 qs2.length k0) (.slice y1 an2.length k1) (.slice y2 ns2.length k2) (.slice y3 ar2.length k3) ⟨⟨jd, jq, jo, ja, jt, jr, jv, jz, jc⟩, qs2, an2, ns2, ar2⟩ ∧ Below w.heap.size w w' := by
  cases hn : isName c.data.toList with
  | true =>
    rw [fM_yes hn] at hM
    rw [fE_yes hn] at hE
    simp only [kpM, Ms.mk.injEq, Hd.mk.injEq] at hM
    obtain ⟨⟨rfl, rfl, rfl, rfl, rfl, rfl, rfl, rfl, rfl⟩, rfl, rfl, rfl, rfl⟩ := hM
    subst hE
    exact refFilter_yes c _ _ _ _ _ _ _ _ _ _ _ _ _ _ _ _ _ _ h0 h1 h2 h3 hF hc hn
  | false =>
    rw [fM_no hn] at hM
    rw [fE_no hn] at hE
    simp only [msZ, hdZ, Ms.mk.injEq, Hd.mk.injEq] at hM
    obtain ⟨⟨rfl, rfl, rfl, rfl, rfl, rfl, rfl, rfl, rfl⟩, rfl, rfl, rfl, rfl⟩ := hM
    subst hE
    refine (refFilter_no c id qr op aa tc rd ra z rc qs an ns ar v0 v1 v2 v3 w h0 h1 h2 h3 hc hn).mono ?_
    rintro e w' ⟨rfl, hb⟩
    exact ⟨none, none, none, none, 0, 0, 0, 0, rfl, ⟨Row.nil _ _, Row.nil _ _, Row.nil _ _, Row.nil _ _, by decide, by decide, by decide, by decide⟩, hb⟩

end Go.Proofs.Ytnecdpieoipjdaa
