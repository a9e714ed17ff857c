/- Put, Get and SameMsg, of a message whose parts are told one by one. -/
import Derived.Test.YtdogjbblnjjaaabWiR
namespace Go.Proofs.Ytdogjbblnjjaaab
open Go.RowKit
open Pl

/-- Get of a message with this header. -/
theorem get_h (s : ByteArray) (id : Int) (qr : Bool) (op : Int) (aa tc rd ra : Bool) (z rc : Int) (qs : List Qn) (an ns ar : List Rc) (E : Int) (w : World) (hs : s.size ≤ maxLen) (h : gM s = ⟨⟨id, qr, op, aa, tc, rd, ra, z, rc⟩, qs, an, ns, ar⟩ ∧ gE s = E) :
    Calls Try.prog 6 #[.string s] w fun e w' => ∃ (y0 y1 y2 y3 : Option Addr) (n0 n1 n2 n3 k0 k1 k2 k3 : Nat), e = .returned (.tuple #[.agg #[.int .i64 id, .bool qr, .int .i64 op, .bool aa, .bool tc, .bool rd, .bool ra, .int .i64 z, .int .i64 rc, .slice y0 n0 k0, .slice y1 n1 k1, .slice y2 n2 k2, .slice y3 n3 k3], .int .i64 E]) ∧ Own w.heap.size w' (.slice y0 n0 k0) (.slice y1 n1 k1) (.slice y2 n2 k2) (.slice y3 n3 k3) ⟨⟨id, qr, op, aa, tc, rd, ra, z, rc⟩, qs, an, ns, ar⟩ ∧ Below w.heap.size w w' := get_k s _ E w hs h
theorem same_h (id : Int) (qr : Bool) (op : Int) (aa tc rd ra : Bool) (z rc : Int) (qs : List Qn) (an ns ar : List Rc) (v0 v1 v2 v3 u0 u1 u2 u3 : Value) (w : World) (a : MR w v0 v1 v2 v3 ⟨⟨id, qr, op, aa, tc, rd, ra, z, rc⟩, qs, an, ns, ar⟩) (b : MR w u0 u1 u2 u3 ⟨⟨id, qr, op, aa, tc, rd, ra, z, rc⟩, qs, an, ns, ar⟩) :
    Calls Try.prog 9 #[.agg #[.int .i64 id, .bool qr, .int .i64 op, .bool aa, .bool tc, .bool rd, .bool ra, .int .i64 z, .int .i64 rc, v0, v1, v2, v3], .agg #[.int .i64 id, .bool qr, .int .i64 op, .bool aa, .bool tc, .bool rd, .bool ra, .int .i64 z, .int .i64 rc, u0, u1, u2, u3]] w fun e w' => e = .returned (.bool true) ∧ Below w.heap.size w w' := sameMsg_yes ⟨⟨id, qr, op, aa, tc, rd, ra, z, rc⟩, qs, an, ns, ar⟩ v0 v1 v2 v3 u0 u1 u2 u3 w a b
theorem put_h (id : Int) (qr : Bool) (op : Int) (aa tc rd ra : Bool) (z rc : Int) (qs : List Qn) (an ns ar : List Rc) (T : ByteArray) (E : Int) (v0 v1 v2 v3 : Value) (w : World) (h : putV ⟨⟨id, qr, op, aa, tc, rd, ra, z, rc⟩, qs, an, ns, ar⟩ = .tuple #[.string T, .int .i64 E]) (h0 : QRow w v0 qs) (h1 : RRow w v1 an) (h2 : RRow w v2 ns) (h3 : RRow w v3 ar) :
    Calls Try.prog 7 #[.agg #[.int .i64 id, .bool qr, .int .i64 op, .bool aa, .bool tc, .bool rd, .bool ra, .int .i64 z, .int .i64 rc, v0, v1, v2, v3]] w fun e w' => e = .returned (.tuple #[.string T, .int .i64 E]) ∧ Below w.heap.size w w' := by
  have := put_w (msgC ⟨id, qr, op, aa, tc, rd, ra, z, rc⟩ v0 v1 v2 v3) ⟨⟨id, qr, op, aa, tc, rd, ra, z, rc⟩, qs, an, ns, ar⟩ w ⟨v0, v1, v2, v3, rfl, h0, h1, h2, h3⟩
  rw [h] at this
  exact this
/-- What Put gives: bytes that are read, or none. -/
theorem put_ways (m : Ms) : (∃ T : ByteArray, putV m = .tuple #[.string T, .int .i64 0] ∧ getM T = some m ∧ T.size ≤ 4096 ∧ 12 ≤ T.size) ∨ ∃ E : Int, putV m = .tuple #[.string ⟨#[]⟩, .int .i64 E] ∧ (E = 700 ∨ E = 701) ∧ (mayM m = true → E = 701) := by
  cases hm : mayM m with
  | false => exact .inr ⟨700, putV_no hm, .inl rfl, fun h => by simp at h⟩
  | true =>
    rw [putV_yes hm]
    cases hp : putSt m with
    | none => exact .inr ⟨701, rfl, .inr rfl, fun _ => rfl⟩
    | some st =>
      obtain ⟨h1, h2, h3⟩ := there_back hm hp
      exact .inl ⟨⟨st.1.toArray⟩, rfl, h1, by rw [toArr_size]; exact h2, by rw [toArr_size]; exact h3⟩
theorem own_q {B : Nat} {w : World} {v0 v1 v2 v3 : Value} {m : Ms} (h : Own B w v0 v1 v2 v3 m) (hm : mayM m = true) : QRow w v0 m.qs ∧ RRow w v1 m.an ∧ RRow w v2 m.ns ∧ RRow w v3 m.ar := by
  unfold mayM at hm
  simp only [Bool.and_eq_true] at hm
  obtain ⟨_, ⟨⟨h0, h1⟩, h2⟩, h3⟩ := hm
  have f0 := few_iff h0
  have f1 := few_iff h1
  have f2 := few_iff h2
  have f3 := few_iff h3
  have R : ∀ rs : List Rc, rs.all mayR = true → ∀ r ∈ rs, r.n.size ≤ maxLen ∧ r.d.size ≤ maxLen := fun rs hr r hm => by
    have := List.all_eq_true.1 hr r hm
    unfold mayR at this
    simp only [Bool.and_eq_true] at this
    have a := (name_some this.1.1.1).1
    have b := (may_top this.2).2.2
    rw [data_len] at a b
    exact ⟨small100 (by omega), small100 (by omega)⟩
  refine ⟨⟨Row.of_own h.q, small100 (by omega), fun q hq => ?_⟩, ⟨Row.of_own h.an, small100 (by omega), R _ f1.2⟩, ⟨Row.of_own h.ns, small100 (by omega), R _ f2.2⟩, ⟨Row.of_own h.ar, small100 (by omega), R _ f3.2⟩⟩
  have := List.all_eq_true.1 f0.2 q hq
  unfold mayQ at this
  simp only [Bool.and_eq_true] at this
  have a := (name_some this.1.1).1
  rw [data_len] at a
  exact small100 (by omega)
theorem may_few {m : Ms} (hm : mayM m = true) : m.qs.length ≤ 64 ∧ m.an.length ≤ 64 ∧ m.ns.length ≤ 64 ∧ m.ar.length ≤ 64 := by
  unfold mayM at hm
  simp only [Bool.and_eq_true] at hm
  obtain ⟨_, ⟨⟨h0, h1⟩, h2⟩, h3⟩ := hm
  exact ⟨(few_iff h0).1, (few_iff h1).1, (few_iff h2).1, (few_iff h3).1⟩

end Go.Proofs.Ytdogjbblnjjaaab
