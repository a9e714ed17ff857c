/- What the document's GetMsg and GetOpt read of a query. -/
import Derived.Test.YtcapankhobnfeaaXP14
import Derived.Test.YtcapankhobnfeaaXWjH
import Derived.Test.YtcapankhobnfeaaXOpR
namespace Go.Proofs.Ytcapankhobnfeaa
open Go.RowKit
open Pl

theorem own_one {w : World} {B e z n cap m : Nat} {y : Option Addr} {xs : List Value} (h : w.ownsRow B e z (.slice y n cap) (m + 1) xs) : ∃ g, y = some ⟨g, 0, none⟩ ∧ n = m + 1 := by
  rcases h.2 with ⟨_, h2⟩ | ⟨g, c, cur, hv, _⟩
  · omega
  · simp only [Value.slice.injEq] at hv
    exact ⟨g, hv.1, hv.2.1⟩
theorem own_nil {w : World} {B e z n cap : Nat} {y : Option Addr} {xs : List Value} (h : w.ownsRow B e z (.slice y n cap) 0 xs) : n = 0 := by
  rcases h.2 with ⟨hv, _⟩ | ⟨g, c, cur, hv, _⟩
  · simp only [Value.slice.injEq] at hv; exact hv.2.1
  · simp only [Value.slice.injEq] at hv; exact hv.2.1
theorem own_num {w : World} {B e z n cap m : Nat} {y : Option Addr} {xs : List Value} (h : w.ownsRow B e z (.slice y n cap) m xs) : m = n := by
  rcases h.2 with ⟨hv, h2⟩ | ⟨g, c, cur, hv, _⟩
  · simp only [Value.slice.injEq] at hv; omega
  · simp only [Value.slice.injEq] at hv; exact hv.2.1.symm
theorem row_cells {w : World} {g n cap : Nat} {xs : List Value} (hn : 0 < n) (h : Row w (.slice (some ⟨g, 0, none⟩) n cap) n xs) : ∀ j u, xs[j]? = some u → w.cell? ⟨g, j, none⟩ = some u := by
  obtain ⟨g', o, c, hx, hc⟩ := row_at h hn
  simp only [Value.slice.injEq, Option.some.injEq, Addr.mk.injEq] at hx
  obtain ⟨⟨rfl, rfl, -⟩, -, -⟩ := hx
  intro j u hu
  have := hc j u hu
  rwa [Nat.zero_add] at this
theorem q_one {w : World} {g cap : Nat} {q : Qn} (h : Row w (.slice (some ⟨g, 0, none⟩) 1 cap) 1 (qC [q])) : w.cell? ⟨g, 0, none⟩ = some (.string q.n) ∧ w.cell? ⟨g, 1, none⟩ = some (.int .i64 q.t) ∧ w.cell? ⟨g, 2, none⟩ = some (.int .i64 q.c) :=
  ⟨row_cells (by decide) h 0 _ rfl, row_cells (by decide) h 1 _ rfl, row_cells (by decide) h 2 _ rfl⟩
theorem r_one {w : World} {g cap : Nat} {r : Rc} (h : Row w (.slice (some ⟨g, 0, none⟩) 1 cap) 1 (rC [r])) : w.cell? ⟨g, 0, none⟩ = some (.string r.n) ∧ w.cell? ⟨g, 1, none⟩ = some (.int .i64 r.t) ∧ w.cell? ⟨g, 2, none⟩ = some (.int .i64 r.c) ∧ w.cell? ⟨g, 3, none⟩ = some (.int .i64 r.l) ∧ w.cell? ⟨g, 4, none⟩ = some (.string r.d) :=
  ⟨row_cells (by decide) h 0 _ rfl, row_cells (by decide) h 1 _ rfl, row_cells (by decide) h 2 _ rfl, row_cells (by decide) h 3 _ rfl, row_cells (by decide) h 4 _ rfl⟩
theorem o_one {w : World} {g cap : Nat} {o : On} (h : Row w (.slice (some ⟨g, 0, none⟩) 1 cap) 1 (oC [o])) : w.cell? ⟨g, 0, none⟩ = some (.int .i64 o.c) ∧ w.cell? ⟨g, 1, none⟩ = some (.string o.d) :=
  ⟨row_cells (by decide) h 0 _ rfl, row_cells (by decide) h 1 _ rfl⟩

/-- A query is read. -/
theorem rget_q (S : ByteArray) (i : Int) (F : ByteArray) (t : Int) (r : Rc) (w : World) (hs : S.size ≤ maxLen) (h : gM S = ⟨⟨i, false, 0, false, false, false, false, 0, 0⟩, [⟨F, t, 1⟩], [], [], [r]⟩ ∧ gE S = 0) :
    Calls Try.prog 19 #[.string S] w fun e w' => ∃ (gq kq gr kr k1 k2 : Nat) (y1 y2 : Option Addr), e = .returned (.tuple #[.agg #[.int .i64 i, .bool false, .int .i64 0, .bool false, .bool false, .bool false, .bool false, .int .i64 0, .int .i64 0, .slice (some ⟨gq, 0, none⟩) 1 kq, .slice y1 0 k1, .slice y2 0 k2, .slice (some ⟨gr, 0, none⟩) 1 kr], .int .i64 0]) ∧ Row w' (.slice (some ⟨gq, 0, none⟩) 1 kq) 1 (qC [⟨F, t, 1⟩]) ∧ Row w' (.slice (some ⟨gr, 0, none⟩) 1 kr) 1 (rC [r]) ∧ Below w.heap.size w w' := by
  refine (rget_h S i false 0 false false false false 0 0 [⟨F, t, 1⟩] [] [] [r] 0 w hs h).mono ?_
  rintro e w' ⟨y0, y1, y2, y3, n0, n1, n2, n3, k0, k1, k2, k3, rfl, o, b⟩
  obtain ⟨gq, rfl, rfl⟩ := own_one (m := 0) o.q
  obtain ⟨gr, rfl, rfl⟩ := own_one (m := 0) o.ar
  obtain rfl := own_nil o.an
  obtain rfl := own_nil o.ns
  exact ⟨gq, k0, gr, k3, k1, k2, y1, y2, rfl, Row.of_own o.q, Row.of_own o.ar, b⟩
/-- Its OPT is read. -/
theorem rget_o (k : Nat) (w : World) (hk : k ≤ 60000) :
    Calls Try.prog 21 #[.agg #[.string rootB, .int .i64 41, .int .i64 1232, .int .i64 0, .string ⟨(osB (pdO k)).toArray⟩]] w fun e w' => ∃ (g cap : Nat), e = .returned (.tuple #[.agg #[.int .i64 1232, .int .i64 0, .int .i64 0, .bool false, .int .i64 0, .slice (some ⟨g, 0, none⟩) 1 cap], .int .i64 0]) ∧ Row w' (.slice (some ⟨g, 0, none⟩) 1 cap) 1 (oC (pdO k)) ∧ Below w.heap.size w w' := by
  have hp := put_get (may_pd hk)
  rw [ot_pd hk] at hp
  have h := refGetO_any ⟨rootB, 41, 1232, 0, ⟨(osB (pdO k)).toArray⟩⟩ w (small100 (by simp only; rw [bytes_size, osB_pd]; omega))
  rw [hp.1, hp.2] at h
  refine h.mono ?_
  rintro e w' ⟨y, n, cap, rfl, o, b⟩
  obtain ⟨g, rfl, rfl⟩ := own_one (m := 0) o
  exact ⟨g, cap, rfl, Row.of_own o, b⟩
/-- What stands in a query. -/
theorem que_read {id : Int} {n : ByteArray} {t : Int} (h : mayQu id n t = true) : ∃ k, k ≤ 127 ∧ (queT id n t).size = (n.size + 31 + 127) / 128 * 128 ∧ queE id n t = 0 ∧ gM (queT id n t) = ⟨⟨id, false, 0, false, false, false, false, 0, 0⟩, [⟨fdB n, t, 1⟩], [], [], [⟨rootB, 41, 1232, 0, ⟨(osB (pdO k)).toArray⟩⟩]⟩ ∧ gE (queT id n t) = 0 := by
  obtain ⟨e1, e2, k, _, hk, e3, e4⟩ := que_yes h
  obtain ⟨_, _, g, l, _⟩ := p_yes e4
  obtain ⟨a, b⟩ := g_some l g
  rw [← e3] at a b
  refine ⟨k, hk, e2, e1, ?_, b⟩
  rw [a]
  unfold withO qM
  rw [ot_pd (by omega)]
  rfl

end Go.Proofs.Ytcapankhobnfeaa
