/- What Answer holds; an answer that is refused. -/
import Derived.Test.YtcapankhobnfeaaXP10
namespace Go.Proofs.Ytcapankhobnfeaa
open Go.RowKit
open Pl

/-- The three forms: bytes and error. -/
def f1T (m : Ms) (edns : Bool) : ByteArray := if edns = true then qT 468 m else pT m
def f1E (m : Ms) (edns : Bool) : Int := if edns = true then qE 468 m else pE m
def f2T (m : Ms) (edns : Bool) : ByteArray := if edns = true then qT 468 (cutM m) else pT (cutM m)
def f2E (m : Ms) (edns : Bool) : Int := if edns = true then qE 468 (cutM m) else pE (cutM m)
def f3T (m : Ms) (edns : Bool) : ByteArray := if edns = true then pT (withO (cutM m) []) else pT (cutM m)
def f3E (m : Ms) (edns : Bool) : Int := if edns = true then pE (withO (cutM m) []) else pE (cutM m)
/-- What Answer gives. -/
def ansT (m : Ms) (edns : Bool) (most : Int) : ByteArray := if refE m edns = 0 then (if fitB (f1T m edns) (f1E m edns) most = true then f1T m edns else if fitB (f2T m edns) (f2E m edns) most = true then f2T m edns else if fitB (f3T m edns) (f3E m edns) most = true then f3T m edns else ⟨#[]⟩) else ⟨#[]⟩
def ansE (m : Ms) (edns : Bool) (most : Int) : Int := if refE m edns = 0 then (if fitB (f1T m edns) (f1E m edns) most = true then 0 else if fitB (f2T m edns) (f2E m edns) most = true then 0 else if fitB (f3T m edns) (f3E m edns) most = true then 0 else 1001) else refE m edns

theorem ref_zero {m : Ms} {edns : Bool} (h : refE m edns = 0) : pE m = 0 ∧ (edns = true → m.ar.length < 64) := by
  unfold refE at h
  split at h
  · simp at h
  · split at h
    · simp at h
    · rename_i a b
      refine ⟨?_, ?_⟩
      · by_cases e : pE m = 0
        · exact e
        · exact absurd (.inl e) b
      · intro he
        by_cases e : 64 ≤ m.ar.length
        · exact absurd (.inr ⟨he, e⟩) b
        · omega

/-- How far Answer is: what it holds. -/
structure AS (w u : World) (gp go gs : Nat) (pd : Bool) (C D : Array Value) (most : Int) (S : ByteArray) : Prop where
  below : Below w.heap.size w u
  msg : Blk u w.heap.size C 29
  mst : Blk u (w.heap.size + 1) #[.int .i64 most] 3
  pad : pd = true → Blk u gp #[.int .i64 468] 3
  out : Blk u go #[.string S] 9
  sht : Blk u gs D 29
  far : w.heap.size + 1 < go
  np : pd = true → gp ≠ go
  ns : gs ≠ go
theorem AS.step {w u u' : World} {gp go gs : Nat} {pd : Bool} {C D : Array Value} {most : Int} {S S' : ByteArray} (h : AS w u gp go gs pd C D most S) (t : TG go u u') (o : Blk u' go #[.string S'] 9) : AS w u' gp go gs pd C D most S' :=
  ⟨Turn.below h.below t h.below.size (fun i e => by have := h.far; omega), t.blk h.msg (by have := h.far; omega), t.blk h.mst (by have := h.far; omega), fun e => t.blk (h.pad e) (h.np e), o, t.blk h.sht h.ns, h.far, h.np, h.ns⟩
theorem as_new {w w2 w3 : World} {gp : Nat} {pd : Bool} {C D : Array Value} {most : Int} (hb : Below w.heap.size w w2) (hM : Blk w2 w.heap.size C 29) (hO : Blk w2 (w.heap.size + 1) #[.int .i64 most] 3) (hP : pd = true → Blk w2 gp #[.int .i64 468] 3) (b3 : Below (w2.alloc (.cells #[.string ⟨#[]⟩] 9)).heap.size (w2.alloc (.cells #[.string ⟨#[]⟩] 9)) w3) :
    AS w (w3.alloc (.cells D 29)) gp w2.heap.size w3.heap.size pd C D most ⟨#[]⟩ := by
  have k := Blk.new w2 #[.string ⟨#[]⟩] 9
  have h3 := b3.size
  rw [World.size_alloc] at h3
  exact ⟨lay (next (lay hb _) b3) _, ((hM.alloc _).below b3).alloc _, ((hO.alloc _).below b3).alloc _, fun e => (((hP e).alloc _).below b3).alloc _, (k.below b3).alloc _, Blk.new w3 _ _, hO.lt, fun e => by have := (hP e).lt; omega, by omega⟩

set_option maxRecDepth 20000 in
set_option maxHeartbeats 1000000 in
theorem answer_no (m : Ms) (edns : Bool) (most : Int) (v0 v1 v2 v3 : Value) (E : Int) (w : World) (h0 : QRow w v0 m.qs) (h1 : RRow w v1 m.an) (h2 : RRow w v2 m.ns) (h3 : RRow w v3 m.ar) (hE : refE m edns = E) (hz : E ≠ 0) :
    Calls Try.prog 12 #[.agg (msgC m.h v0 v1 v2 v3), .bool edns, .int .i64 most] w fun e w' => e = .returned (.tuple #[.string ⟨#[]⟩, .int .i64 E]) ∧ Below w.heap.size w w' := by
  have KR : ∀ u, Hid (Below w.heap.size w u) → _ := fun u hu => refusal_any m edns v0 v1 v2 v3 E u (h0.below hu.out) (h1.below hu.out) (h2.below hu.out) (h3.below hu.out) hE
  obtain ⟨x0, c0, rfl⟩ := row_slice h0.1
  obtain ⟨x1, c1, rfl⟩ := row_slice h1.1
  obtain ⟨x2, c2, rfl⟩ := row_slice h2.1
  obtain ⟨x3, c3, rfl⟩ := row_slice h3.1
  obtain ⟨hd, qs, an, ns, ar⟩ := m
  obtain ⟨id, qr, op, aa, tc, rd, ra, z, rc⟩ := hd
  have hb := lay (lay (Below.refl w.heap.size w) (.cells (msgC ⟨id, qr, op, aa, tc, rd, ra, z, rc⟩ (.slice x0 qs.length c0) (.slice x1 an.length c1) (.slice x2 ns.length c2) (.slice x3 ar.length c3)) 29)) (.cells #[.int .i64 most] 3)
  clear h0 h1 h2 h3 hE
  unfold msgC at KR hb ⊢
  simp only at KR hb ⊢
  go_enter Try.func12, Try.ntmps12
  go_wp2_with (go_at_call 30; go_must (refine (KR _ hb).mono ?_); rintro e w1 ⟨rfl, b1⟩; replace hb := next hb b1; clear b1)
  go_ret2
  exact ⟨rfl, hb⟩

end Go.Proofs.Ytcapankhobnfeaa
