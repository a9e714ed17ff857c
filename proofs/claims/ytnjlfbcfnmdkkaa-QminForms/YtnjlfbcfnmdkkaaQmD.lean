/- What awake of the statements over package qmin gives: true. -/
import Derived.Test.YtnjlfbcfnmdkkaaQmC
import Derived.Laws.StructEq
namespace Go.Proofs.Ytnjlfbcfnmdkkaa
open Go.RowKit
open Pl
namespace Qm

theorem next_as (x : Tk) (c o : Int) (v : Value) (w : World) (hn : x.n.size ≤ maxLen) (hkn : x.known.size ≤ maxLen) (h : nextV x c o = v) :
    Calls Try.prog 11 #[.agg (tkC x), .int .i64 c, .int .i64 o] w fun e w' => e = .returned v ∧ Below w.heap.size w w' := by rw [← h]; exact next_any x c o w hn hkn

theorem aw1 : sizeV 0 20 10 4 = .tuple #[.int .i64 1, .int .i64 0] := by rw [sizeV_yes (by decide), show szI 0 20 10 4 = 1 from by decide]
theorem aw2 : sizeV 5 20 10 4 = .tuple #[.int .i64 4, .int .i64 0] := by rw [sizeV_yes (by decide), show szI 5 20 10 4 = 4 from by decide]
theorem aw3 : sizeV 10 20 10 4 = .tuple #[.int .i64 20, .int .i64 0] := by rw [sizeV_yes (by decide), show szI 10 20 10 4 = 20 from by decide]
theorem aw4 : sizeV 0 0 10 4 = .tuple #[.int .i64 0, .int .i64 1700] := by rw [sizeV_no (by decide)]
def awT : Tk := ⟨⟨#[1, 65, 1, 98, 1, 99, 0]⟩, 15, ⟨#[]⟩, ⟨#[1, 99, 0]⟩, 0, false, 0, 0⟩
theorem aw5 : nextV awT 10 4 = .tuple #[stV ⟨#[1, 98, 1, 99, 0]⟩ 1, .int .i64 0] := by
  rw [nextV_yes (by decide +kernel), show toldB awT 10 4 = ⟨#[1, 98, 1, 99, 0]⟩ from by decide +kernel, show typeI awT 10 4 = 1 from by decide +kernel]
theorem aw_next (w : World) : Calls Try.prog 11 #[.agg #[.string ⟨#[1, 65, 1, 98, 1, 99, 0]⟩, .int .i64 15, .string ⟨#[]⟩, .string ⟨#[1, 99, 0]⟩, .int .i64 0, .bool false, .int .i64 0, .int .i64 0], .int .i64 10, .int .i64 4] w
    fun e w' => e = .returned (.tuple #[.agg #[.string ⟨#[1, 98, 1, 99, 0]⟩, .int .i64 1], .int .i64 0]) ∧ Below w.heap.size w w' :=
  next_as awT 10 4 _ w (by decide) (by decide) aw5

set_option maxRecDepth 20000 in
theorem awake_any (w : World) : Calls Try.prog 14 #[] w fun e w' => e = .returned (.bool true) ∧ Below w.heap.size w w' := by
  have hb : Below w.heap.size w w := Below.refl _ _
  go_enter Try.func14, Try.ntmps14
  go_wp2_with (first
    | (go_at_call_of 9 (#[Value.int IntKind.i64 0, Value.int IntKind.i64 20, Value.int IntKind.i64 10, Value.int IntKind.i64 4]); go_must (refine (size_as _ _ _ _ _ _ aw1).mono ?_); rintro e w1 ⟨rfl, b1⟩; replace hb := next hb b1; clear b1)
    | (go_at_call_of 9 (#[Value.int IntKind.i64 5, Value.int IntKind.i64 20, Value.int IntKind.i64 10, Value.int IntKind.i64 4]); go_must (refine (size_as _ _ _ _ _ _ aw2).mono ?_); rintro e w2 ⟨rfl, b1⟩; replace hb := next hb b1; clear b1)
    | (go_at_call_of 9 (#[Value.int IntKind.i64 10, Value.int IntKind.i64 20, Value.int IntKind.i64 10, Value.int IntKind.i64 4]); go_must (refine (size_as _ _ _ _ _ _ aw3).mono ?_); rintro e w3 ⟨rfl, b1⟩; replace hb := next hb b1; clear b1)
    | (go_at_call_of 9 (#[Value.int IntKind.i64 0, Value.int IntKind.i64 0, Value.int IntKind.i64 10, Value.int IntKind.i64 4]); go_must (refine (size_as _ _ _ _ _ _ aw4).mono ?_); rintro e w4 ⟨rfl, b1⟩; replace hb := next hb b1; clear b1)
    | (go_at_call 11; go_must (refine (aw_next _).mono ?_); rintro e w5 ⟨rfl, b1⟩; replace hb := lay (next hb b1) (.cells #[.string ⟨#[1, 98, 1, 99, 0]⟩, .int .i64 1] 30); clear b1)
    | (go_at_call 13; refine (num_any _ _).mono ?_; rintro e w' ⟨rfl, hw⟩; obtain rfl := hw.symm))
  go_ret
  exact ⟨rfl, hb⟩

end Qm
end Go.Proofs.Ytnjlfbcfnmdkkaa
