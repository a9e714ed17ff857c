/- What WireForms' message is, and where it lies. -/
import Derived.Test.YtdogjbblnjjaaaaXWiU
namespace Go.Proofs.Ytdogjbblnjjaaaa
open Go.RowKit
open Pl

def wfQ : Qn := ⟨⟨#[0]⟩, 1, 1⟩
def wfM : Ms := ⟨hdZ, [wfQ], [awR], [awR], [awR]⟩
theorem wf_may : mayM wfM = true := by decide +kernel
theorem wf_some : (putSt wfM).isSome = true := by decide +kernel
theorem wf_put : ∃ T : ByteArray, putV ⟨⟨0, false, 0, false, false, false, false, 0, 0⟩, [⟨⟨#[0]⟩, 1, 1⟩], [⟨⟨#[1, 97, 0]⟩, 1, 1, 5, ⟨#[97, 98, 99, 100]⟩⟩], [⟨⟨#[1, 97, 0]⟩, 1, 1, 5, ⟨#[97, 98, 99, 100]⟩⟩], [⟨⟨#[1, 97, 0]⟩, 1, 1, 5, ⟨#[97, 98, 99, 100]⟩⟩]⟩ = .tuple #[.string T, .int .i64 0] := by
  have h := wf_some
  cases hp : putSt wfM with
  | none => rw [hp] at h; simp at h
  | some st => exact ⟨⟨st.1.toArray⟩, by show putV wfM = _; rw [putV_yes wf_may, hp]; rfl⟩

theorem wfin_no {p x : Int} (h : x < 0 ∨ p < x) : inB p x = false := by
  unfold inB; simp; omega
theorem fit_no {p x : Int} (h : x < 0 ∨ p ≤ x) : fitI p x = false := by
  unfold fitI; simp; omega
theorem may_no {q : Qn} {h : Hd} {a n r : Rc} (H : mayHd h = false ∨ mayQ q = false ∨ mayR a = false ∨ mayR n = false ∨ mayR r = false) : putV ⟨h, [q], [a], [n], [r]⟩ = .tuple #[.string ⟨#[]⟩, .int .i64 700] := by
  refine putV_no ?_
  unfold mayM few
  simp only [List.all_cons, List.all_nil, Bool.and_true]
  rcases H with H | H | H | H | H <;> simp [H]
theorem hd_no {op : Int} (h : 16 ≤ op) : mayHd ⟨0, false, op, false, false, false, false, 0, 0⟩ = false := by
  unfold mayHd mayH; simp only; rw [fit_no (p := 16) (.inr h)]; simp
theorem q_no {n : ByteArray} {t c : Int} (h : c < 0) : mayQ ⟨n, t, c⟩ = false := by unfold mayQ; simp only; rw [wfin_no (.inl h)]; simp
theorem r_noc {n d : ByteArray} {t c l : Int} (h : 65535 < c) : mayR ⟨n, t, c, l, d⟩ = false := by unfold mayR; simp only; rw [wfin_no (.inr h)]; simp
theorem r_nol {n d : ByteArray} {t c l : Int} (h : l < 0 ∨ 4294967295 < l) : mayR ⟨n, t, c, l, d⟩ = false := by unfold mayR; simp only; rw [wfin_no (p := 4294967295) h]; simp

def qW : Array Value := #[.string ⟨#[0]⟩, .int .i64 1, .int .i64 1]
def rW : Array Value := #[.string ⟨#[1, 97, 0]⟩, .int .i64 1, .int .i64 1, .int .i64 5, .string ⟨#[97, 98, 99, 100]⟩]
def mW (b : Nat) : Array Value := #[.int .i64 0, .bool false, .int .i64 0, .bool false, .bool false, .bool false, .bool false, .int .i64 0, .int .i64 0, .slice (some ⟨b + 1, 0, none⟩) 1 1, .slice (some ⟨b + 1 + 1, 0, none⟩) 1 1, .slice (some ⟨b + 1 + 1 + 1, 0, none⟩) 1 1, .slice (some ⟨b + 1 + 1 + 1 + 1, 0, none⟩) 1 1]
/-- Where the message lies. -/
structure WF (w : World) (b : Nat) : Prop where
  r0 : Blk w b rW 48
  q : Blk w (b + 1) qW 50
  a : Blk w (b + 1 + 1) rW 48
  n : Blk w (b + 1 + 1 + 1) rW 48
  r : Blk w (b + 1 + 1 + 1 + 1) rW 48
  m : Blk w (b + 1 + 1 + 1 + 1 + 1) (mW b) 27
theorem WF.below {w w' : World} {b : Nat} (h : WF w b) (hb : Below w.heap.size w w') : WF w' b := ⟨h.r0.below hb, h.q.below hb, h.a.below hb, h.n.below hb, h.r.below hb, h.m.below hb⟩
def wfW (w : World) : World := (((((w.alloc (.cells rW 48)).alloc (.cells qW 50)).alloc (.cells rW 48)).alloc (.cells rW 48)).alloc (.cells rW 48)).alloc (.cells (mW w.heap.size) 27)
theorem wf_new (w : World) : WF (wfW w) w.heap.size := by
  have k1 := Blk.new (w.alloc (.cells rW 48)) qW 50
  have k2 := Blk.new ((w.alloc (.cells rW 48)).alloc (.cells qW 50)) rW 48
  have k3 := Blk.new (((w.alloc (.cells rW 48)).alloc (.cells qW 50)).alloc (.cells rW 48)) rW 48
  have k4 := Blk.new ((((w.alloc (.cells rW 48)).alloc (.cells qW 50)).alloc (.cells rW 48)).alloc (.cells rW 48)) rW 48
  have k5 := Blk.new (((((w.alloc (.cells rW 48)).alloc (.cells qW 50)).alloc (.cells rW 48)).alloc (.cells rW 48)).alloc (.cells rW 48)) (mW w.heap.size) 27
  simp only [World.size_alloc] at k1 k2 k3 k4 k5
  exact ⟨(((((Blk.new w rW 48).alloc _).alloc _).alloc _).alloc _).alloc _, (((k1.alloc _).alloc _).alloc _).alloc _, ((k2.alloc _).alloc _).alloc _, (k3.alloc _).alloc _, k4.alloc _, k5⟩
theorem wf_bel {w0 w : World} (h : Below w0.heap.size w0 w) : Below w0.heap.size w0 (wfW w) := lay (lay (lay (lay (lay (lay h _) _) _) _) _) _
theorem WF.rows {w : World} {b : Nat} (h : WF w b) : QRow w (.slice (some ⟨b + 1, 0, none⟩) 1 1) [⟨⟨#[0]⟩, 1, 1⟩] ∧ RRow w (.slice (some ⟨b + 1 + 1, 0, none⟩) 1 1) [⟨⟨#[1, 97, 0]⟩, 1, 1, 5, ⟨#[97, 98, 99, 100]⟩⟩] ∧ RRow w (.slice (some ⟨b + 1 + 1 + 1, 0, none⟩) 1 1) [⟨⟨#[1, 97, 0]⟩, 1, 1, 5, ⟨#[97, 98, 99, 100]⟩⟩] ∧ RRow w (.slice (some ⟨b + 1 + 1 + 1 + 1, 0, none⟩) 1 1) [⟨⟨#[1, 97, 0]⟩, 1, 1, 5, ⟨#[97, 98, 99, 100]⟩⟩] :=
  ⟨qrow_lit (q := ⟨⟨#[0]⟩, 1, 1⟩) h.q (by decide), rrow_lit (r := awR) h.a (by decide) (by decide), rrow_lit (r := awR) h.n (by decide) (by decide), rrow_lit (r := awR) h.r (by decide) (by decide)⟩
theorem many_at (r : Rc) (z : Int) (K : Nat) (w : World) (hK : K ≤ 1000) (h : z = (K : Int)) :
    Calls Try.prog 18 #[.agg #[.string r.n, .int .i64 r.t, .int .i64 r.c, .int .i64 r.l, .string r.d], .int .i64 z] w fun e w' => ∃ y c, e = .returned (.slice y K c) ∧ w'.ownsRow w.heap.size 48 5 (.slice y K c) K (rC (List.replicate K r)) ∧ Below w.heap.size w w' := h ▸ many_any r K w hK
theorem wf_many {h : Hd} {qs : List Qn} {an ns ar : List Rc} (H : 64 < qs.length ∨ 64 < an.length ∨ 64 < ns.length ∨ 64 < ar.length) : putV ⟨h, qs, an, ns, ar⟩ = .tuple #[.string ⟨#[]⟩, .int .i64 700] := by
  refine putV_no ?_
  unfold mayM few
  rcases H with H | H | H | H
  all_goals
    simp only
    rw [decide_eq_false (Nat.not_le.2 H)]
    simp

end Go.Proofs.Ytdogjbblnjjaaaa
