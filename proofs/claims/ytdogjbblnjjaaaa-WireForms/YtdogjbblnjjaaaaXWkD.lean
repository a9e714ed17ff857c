/- WireForms' questions that are made: so many, and each stored anew. -/
import Derived.Test.YtdogjbblnjjaaaaXWkA
namespace Go.Proofs.Ytdogjbblnjjaaaa
open Go.RowKit
open Pl

theorem qC_set : ∀ (qs : List Qn) (i : Nat) (q : Qn), i < qs.length → (((qC qs).set (i * 3) (.string q.n)).set (i * 3 + 1) (.int .i64 q.t)).set (i * 3 + 2) (.int .i64 q.c) = qC (qs.set i q) := by
  intro qs
  induction qs with
  | nil => intro i q h; simp at h
  | cons x xs ih =>
    intro i q h
    cases i with
    | zero => simp [qC, qV]
    | succ i =>
      have := ih i q (by simpa using h)
      rw [show (i + 1) * 3 = i * 3 + 3 from by omega]
      simp only [qC, qV, List.flatMap_cons, List.cons_append, List.nil_append, List.set_cons_succ] at this ⊢
      rw [this]
theorem qset_blk {w : World} {g i : Nat} {qs : List Qn} (h : Blk w g (qC qs).toArray 50) (q : Qn) (hi : i < qs.length) :
    Blk (((w.setCell ⟨g, i * 3, none⟩ (.string q.n)).setCell ⟨g, i * 3 + 1, none⟩ (.int .i64 q.t)).setCell ⟨g, i * 3 + 2, none⟩ (.int .i64 q.c)) g (qC (qs.set i q)).toArray 50 := by
  have := ((h.set (i * 3) (.string q.n)).set (i * 3 + 1) (.int .i64 q.t)).set (i * 3 + 2) (.int .i64 q.c)
  simp only [List.setIfInBounds_toArray, qC_set qs i q hi] at this
  exact this
theorem made_q (K : Nat) : madeCells #[.string ⟨#[]⟩, .int .i64 0, .int .i64 0] (K * 3) = (qC (List.replicate K ⟨⟨#[]⟩, 0, 0⟩)).toArray := by
  apply Array.ext
  · simp [madeCells, qC_len]
  · intro i h1 h2
    have hK : i < K * 3 := by simpa [madeCells] using h1
    have e : (qC (List.replicate K (⟨⟨#[]⟩, 0, 0⟩ : Qn)))[i / 3 * 3 + i % 3]? = (qV ⟨⟨#[]⟩, 0, 0⟩)[i % 3]? := by
      have := flat_get (f := qV) (z := 3) (fun _ => rfl) (List.replicate K (⟨⟨#[]⟩, 0, 0⟩ : Qn)) (i / 3) (by simp; omega) (i % 3) (by omega)
      rw [List.getElem_replicate] at this
      exact this
    rw [show i / 3 * 3 + i % 3 = i from by omega] at e
    have h3 : i % 3 = 0 ∨ i % 3 = 1 ∨ i % 3 = 2 := by omega
    rw [List.getElem?_eq_getElem (by rw [qC_len]; simp; omega)] at e
    simp only [List.getElem_toArray]
    rcases h3 with h | h | h <;> rw [h] at e <;> simp [qV] at e <;> rw [e] <;> simp [madeCells, h]
theorem madeQ (K : Nat) (hK : K ≤ 1000) (u : World) : (Instr.makeSlice 24 (.int .i64 (K : Int)) (.int .i64 (K : Int))).run Try.prog u = .ok (.slice (some ⟨u.heap.size, 0, none⟩) K K) (u.alloc (.cells (qC (List.replicate K ⟨⟨#[]⟩, 0, 0⟩)).toArray 50)) := by
  obtain ⟨i0, hi, hz0, hz1, hz2⟩ := info_parts infoQ
  have := run_make (P := Try.prog) u 24 50 i0 (.agg #[.string ⟨#[]⟩, .int .i64 0, .int .i64 0]) Try.underlying24 hi hz0 .i64 .i64 (K : Int) (K : Int) (by omega) (by omega) (by rw [hz2]; omega) (by omega)
  rw [hz1, show (Value.agg #[.string ⟨#[]⟩, .int .i64 0, .int .i64 0]).cells = #[.string ⟨#[]⟩, .int .i64 0, .int .i64 0] from rfl, Int.toNat_natCast, made_q] at this
  exact this
/-- The questions that are made, with all else. -/
structure WG (w0 w : World) (b gs K : Nat) (qs : List Qn) : Prop where
  len : qs.length = K
  sm : ∀ q ∈ qs, q.n.size ≤ 100000
  row : Blk w gs (qC qs).toArray 50
  a : Blk w (b + 1 + 1) rW 48
  n : Blk w (b + 1 + 1 + 1) rW 48
  r : Blk w (b + 1 + 1 + 1 + 1) rW 48
  m : Blk w (b + 1 + 1 + 1 + 1 + 1) ((mW b).setIfInBounds 9 (.slice (some ⟨gs, 0, none⟩) K K)) 27
  bel : Below w0.heap.size w0 w
theorem WG.next {w0 w : World} {b gs K i : Nat} {qs : List Qn} (h : WG w0 w b gs K qs) (hi : i < K) (hg : b + 1 + 1 + 1 + 1 + 1 < gs) (h0 : w0.heap.size ≤ gs) :
    WG w0 (((w.setCell ⟨gs, i * 3, none⟩ (.string ⟨#[0]⟩)).setCell ⟨gs, i * 3 + 1, none⟩ (.int .i64 1)).setCell ⟨gs, i * 3 + 2, none⟩ (.int .i64 0)) b gs K (qs.set i ⟨⟨#[0]⟩, 1, 0⟩) := by
  have hl := h.len
  refine ⟨by rw [List.length_set]; exact hl, fun q hq => ?_, qset_blk h.row ⟨⟨#[0]⟩, 1, 0⟩ (by omega), ((h.a.other (by omega) _ _).other (by omega) _ _).other (by omega) _ _, ((h.n.other (by omega) _ _).other (by omega) _ _).other (by omega) _ _, ((h.r.other (by omega) _ _).other (by omega) _ _).other (by omega) _ _, ((h.m.other (by omega) _ _).other (by omega) _ _).other (by omega) _ _, ((h.bel.setCell (p := ⟨gs, i * 3, none⟩) h0 _).setCell (p := ⟨gs, i * 3 + 1, none⟩) h0 _).setCell (p := ⟨gs, i * 3 + 2, none⟩) h0 _⟩
  rcases List.mem_or_eq_of_mem_set hq with hq | rfl
  · exact h.sm q hq
  · decide
theorem WG.cells {w0 w : World} {b gs K i : Nat} {qs : List Qn} (h : WG w0 w b gs K qs) (hi : i < K) : ∃ (x : ByteArray) (t c : Int), w.cell? ⟨gs, i * 3, none⟩ = some (.string x) ∧ w.cell? ⟨gs, i * 3 + 1, none⟩ = some (.int .i64 t) ∧ w.cell? ⟨gs, i * 3 + 2, none⟩ = some (.int .i64 c) := by
  have hl := h.len
  have := q_cells (w := w) (g := gs) (o := 0) (xs := qs) (fun j u hu => by
    have hj := (List.getElem?_eq_some_iff.1 hu)
    have := h.row.cell j
    rw [Nat.zero_add, this]
    simpa using hu) (k := i) (by omega)
  simp only [Nat.zero_add] at this
  exact ⟨_, _, _, this⟩
theorem WG.qrow {w0 w : World} {b gs K : Nat} {qs : List Qn} (h : WG w0 w b gs K qs) (hK : K ≤ 1000) : QRow w (.slice (some ⟨gs, 0, none⟩) K K) qs := by
  have := h.len
  subst this
  exact ⟨Row.of_blk h.row rfl _ _, small100 (by omega), fun q hq => small100 (h.sm q hq)⟩

end Go.Proofs.Ytdogjbblnjjaaaa
