/- The document's GetMsg and PutMsg, of a message whose parts are told one by one. -/
import Derived.Test.YtcapankhobnfeaaXWjG
import Derived.Test.YtcapankhobnfeaaXP6
namespace Go.Proofs.Ytcapankhobnfeaa
open Go.RowKit
open Pl

theorem rget_h (s : ByteArray) (id : Int) (qr : Bool) (op : Int) (aa tc rd ra : Bool) (z rc : Int) (qs : List Qn) (an ns ar : List Rc) (E : Int) (w : World) (hs : s.size ≤ maxLen) (h : gM s = ⟨⟨id, qr, op, aa, tc, rd, ra, z, rc⟩, qs, an, ns, ar⟩ ∧ gE s = E) :
    Calls Try.prog 19 #[.string s] w fun e w' => ∃ (y0 y1 y2 y3 : Option Addr) (n0 n1 n2 n3 k0 k1 k2 k3 : Nat), e = .returned (.tuple #[.agg #[.int .i64 id, .bool qr, .int .i64 op, .bool aa, .bool tc, .bool rd, .bool ra, .int .i64 z, .int .i64 rc, .slice y0 n0 k0, .slice y1 n1 k1, .slice y2 n2 k2, .slice y3 n3 k3], .int .i64 E]) ∧ Own w.heap.size w' (.slice y0 n0 k0) (.slice y1 n1 k1) (.slice y2 n2 k2) (.slice y3 n3 k3) ⟨⟨id, qr, op, aa, tc, rd, ra, z, rc⟩, qs, an, ns, ar⟩ ∧ Below w.heap.size w w' := by
  have := rget_w s w hs
  unfold GetP at this
  rw [h.1, h.2] at this
  refine this.mono fun e w' ⟨v0, v1, v2, v3, he, ho, hb⟩ => ?_
  obtain ⟨y0, k0, rfl⟩ := row_shape ho.q
  obtain ⟨y1, k1, rfl⟩ := row_shape ho.an
  obtain ⟨y2, k2, rfl⟩ := row_shape ho.ns
  obtain ⟨y3, k3, rfl⟩ := row_shape ho.ar
  exact ⟨_, _, _, _, _, _, _, _, _, _, _, _, he, ho, hb⟩
theorem rput_h (id : Int) (qr : Bool) (op : Int) (aa tc rd ra : Bool) (z rc : Int) (qs : List Qn) (an ns ar : List Rc) (T : ByteArray) (E : Int) (v0 v1 v2 v3 : Value) (w : World) (h : putV ⟨⟨id, qr, op, aa, tc, rd, ra, z, rc⟩, qs, an, ns, ar⟩ = .tuple #[.string T, .int .i64 E]) (h0 : QRow w v0 qs) (h1 : RRow w v1 an) (h2 : RRow w v2 ns) (h3 : RRow w v3 ar) :
    Calls Try.prog 29 #[.agg #[.int .i64 id, .bool qr, .int .i64 op, .bool aa, .bool tc, .bool rd, .bool ra, .int .i64 z, .int .i64 rc, v0, v1, v2, v3]] w fun e w' => e = .returned (.tuple #[.string T, .int .i64 E]) ∧ Below w.heap.size w w' := by
  have := rput_w ⟨⟨id, qr, op, aa, tc, rd, ra, z, rc⟩, qs, an, ns, ar⟩ v0 v1 v2 v3 w h0 h1 h2 h3
  rw [h] at this
  exact this

end Go.Proofs.Ytcapankhobnfeaa
