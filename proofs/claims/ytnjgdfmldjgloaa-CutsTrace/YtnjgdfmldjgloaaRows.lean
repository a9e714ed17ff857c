/-
  No cell of these rows narrows 'for every input' (looked for: loops, veiled, ifaces, maps, wideKeys, modest, calm, conditions, laid).
  DERIVED. THE GIVEN ROWS OF THIS SEAT. 5 by the template 'for every input the law returns true; each argument reads behind the call as it read before'; 0 by the template 'total and deterministic' (their statements: YtnjgdfmldjgloaaTotals.lean).
  GIVEN WITH THE SEED: the statements are not yours to turn. If you find one false, say at which input.
  Laid BY PROGRAM, IN A SANDBOX (cutbox-rows.mjs): the forced cells as the released guide's own fill.sh prints them over the translation dea662b3972f552e… (all of the seat's roots in one cut). By AI agents, Wed Nov 11 2026. No macro, syntax, notation, axiom, sorry.
-/
import Derived.Test.YtnjgdfmldjgloaaChecked
import GoSem.Claim
import GoSem.ClaimJoined
import GoSem.ClaimMapViews
import Derived.JoinedTies
import Derived.KernelRfl
namespace Go.Proofs.Ytnjgdfmldjgloaa
/- THE CELL 'sum', in the pinned program and in every row, IS THE sha256 OF THE DUMP (.gsa) THAT YtnjgdfmldjgloaaProg.lean LOADS. Nothing in Lean hashes anything: it is a label: what it is worth is what the hold of that sum in a sandbox is worth. -/
noncomputable def Try.pinned : Pinned := { name := "ytnjgdfmldjgloaa", sum := "dea662b3972f552e6669f1de950351131e18975af95fd52a47df151423e02a1b", checked := Try.checked }
namespace Rows
def none {H : Type} : Left H := { results := [], args := [] }

/-- 'wimplelaw15.CutsTrace': WHATEVER THE INPUT: true; the input reads as it did. -/
def cutsTraceSpec : ChangeSpec := { name := "cutsTrace", fn := fun _ => fun
  | [d1, d2] => { results := [.lit (.bool true)], args := [d1, d2] }
  | _ => none }
def cutsTraceRow : OpenClaim := { program := "ytnjgdfmldjgloaa", sum := "dea662b3972f552e6669f1de950351131e18975af95fd52a47df151423e02a1b", func := "wimple/wimplelaw15.CutsTrace", spec := "cutsTrace", unfollowed := true, recurses := true, plainKeys := false, apart := false }
def CutsTraceSaid : Prop := cutsTraceRow.holds Try.pinned (OpenSpec.ofChange cutsTraceSpec)

/-- ITS FALSE NEIGHBOUR: 'it returns false'. Refute it at one input. -/
def cutsTraceWrong : ChangeSpec := { name := "cutsTrace", fn := fun _ => fun
  | [d1, d2] => { results := [.lit (.bool false)], args := [d1, d2] }
  | _ => none }
def CutsTraceWrongFalsely : Prop := cutsTraceRow.holds Try.pinned (OpenSpec.ofChange cutsTraceWrong)

/-- 'wimplelaw15.CutsRoom': WHATEVER THE INPUT: true; the input reads as it did. -/
def cutsRoomSpec : ChangeSpec := { name := "cutsRoom", fn := fun _ => fun
  | [d1, d2] => { results := [.lit (.bool true)], args := [d1, d2] }
  | _ => none }
def cutsRoomRow : OpenClaim := { program := "ytnjgdfmldjgloaa", sum := "dea662b3972f552e6669f1de950351131e18975af95fd52a47df151423e02a1b", func := "wimple/wimplelaw15.CutsRoom", spec := "cutsRoom", unfollowed := true, recurses := true, plainKeys := false, apart := false }
def CutsRoomSaid : Prop := cutsRoomRow.holds Try.pinned (OpenSpec.ofChange cutsRoomSpec)

/-- ITS FALSE NEIGHBOUR: 'it returns false'. Refute it at one input. -/
def cutsRoomWrong : ChangeSpec := { name := "cutsRoom", fn := fun _ => fun
  | [d1, d2] => { results := [.lit (.bool false)], args := [d1, d2] }
  | _ => none }
def CutsRoomWrongFalsely : Prop := cutsRoomRow.holds Try.pinned (OpenSpec.ofChange cutsRoomWrong)

/-- 'wimplelaw15.CutsForms': WHATEVER THE INPUT: true; the input reads as it did. -/
def cutsFormsSpec : ChangeSpec := { name := "cutsForms", fn := fun _ => fun
  | [d1, d2] => { results := [.lit (.bool true)], args := [d1, d2] }
  | _ => none }
def cutsFormsRow : OpenClaim := { program := "ytnjgdfmldjgloaa", sum := "dea662b3972f552e6669f1de950351131e18975af95fd52a47df151423e02a1b", func := "wimple/wimplelaw15.CutsForms", spec := "cutsForms", unfollowed := true, recurses := true, plainKeys := false, apart := false }
def CutsFormsSaid : Prop := cutsFormsRow.holds Try.pinned (OpenSpec.ofChange cutsFormsSpec)

/-- ITS FALSE NEIGHBOUR: 'it returns false'. Refute it at one input. -/
def cutsFormsWrong : ChangeSpec := { name := "cutsForms", fn := fun _ => fun
  | [d1, d2] => { results := [.lit (.bool false)], args := [d1, d2] }
  | _ => none }
def CutsFormsWrongFalsely : Prop := cutsFormsRow.holds Try.pinned (OpenSpec.ofChange cutsFormsWrong)

/-- 'wimplelaw15.CutsDeep': WHATEVER THE INPUT: true; the input reads as it did. -/
def cutsDeepSpec : ChangeSpec := { name := "cutsDeep", fn := fun _ => fun
  | [d1, d2, d3] => { results := [.lit (.bool true)], args := [d1, d2, d3] }
  | _ => none }
def cutsDeepRow : OpenClaim := { program := "ytnjgdfmldjgloaa", sum := "dea662b3972f552e6669f1de950351131e18975af95fd52a47df151423e02a1b", func := "wimple/wimplelaw15.CutsDeep", spec := "cutsDeep", unfollowed := true, recurses := true, plainKeys := false, apart := false }
def CutsDeepSaid : Prop := cutsDeepRow.holds Try.pinned (OpenSpec.ofChange cutsDeepSpec)

/-- ITS FALSE NEIGHBOUR: 'it returns false'. Refute it at one input. -/
def cutsDeepWrong : ChangeSpec := { name := "cutsDeep", fn := fun _ => fun
  | [d1, d2, d3] => { results := [.lit (.bool false)], args := [d1, d2, d3] }
  | _ => none }
def CutsDeepWrongFalsely : Prop := cutsDeepRow.holds Try.pinned (OpenSpec.ofChange cutsDeepWrong)

/-- 'wimplelaw15.CutsLearn': WHATEVER THE INPUT: true; the input reads as it did. -/
def cutsLearnSpec : ChangeSpec := { name := "cutsLearn", fn := fun _ => fun
  | [d1, d2, d3] => { results := [.lit (.bool true)], args := [d1, d2, d3] }
  | _ => none }
def cutsLearnRow : OpenClaim := { program := "ytnjgdfmldjgloaa", sum := "dea662b3972f552e6669f1de950351131e18975af95fd52a47df151423e02a1b", func := "wimple/wimplelaw15.CutsLearn", spec := "cutsLearn", unfollowed := true, recurses := true, plainKeys := false, apart := false }
def CutsLearnSaid : Prop := cutsLearnRow.holds Try.pinned (OpenSpec.ofChange cutsLearnSpec)

/-- ITS FALSE NEIGHBOUR: 'it returns false'. Refute it at one input. -/
def cutsLearnWrong : ChangeSpec := { name := "cutsLearn", fn := fun _ => fun
  | [d1, d2, d3] => { results := [.lit (.bool false)], args := [d1, d2, d3] }
  | _ => none }
def CutsLearnWrongFalsely : Prop := cutsLearnRow.holds Try.pinned (OpenSpec.ofChange cutsLearnWrong)

/- THE SECOND FORM. 'bulk': how many values and letters a reading holds, each counted each time it is reached (what is shared counts as often as it is met; a slice's spare places count too). A statement '..UptoSaid' is the law's where the arguments, and the package variables that the reading takes, are together of bulk at most 1048576: NARROWER than '..Said'. Prove '..Said' where nothing that the law and all that it calls make is longer than what came in: it says more and counts as full. Else prove '..UptoSaid'. A law counts once. -/
mutual
def uptoBulk {H : Type} : DataW H → Nat
  | .lit (.string bytes) => bytes.length + 1
  | .lit _ => 1
  | .nil => 1
  | .ptr d => uptoBulk d + 1
  | .slice elems spare => uptoBulkAll elems + uptoBulkAll spare + 1
  | .agg parts => uptoBulkAll parts + 1
  | .iface _ d => uptoBulk d + 1
  | .map entries => uptoBulkEntries entries + 1
  | .held _ => 1
def uptoBulkAll {H : Type} : List (DataW H) → Nat
  | [] => 0
  | d :: r => uptoBulk d + uptoBulkAll r
def uptoBulkEntries {H : Type} : List (Lit × DataW H) → Nat
  | [] => 0
  | x :: r => uptoBulkEntry x + uptoBulkEntries r
def uptoBulkEntry {H : Type} : Lit × DataW H → Nat
  | (.string bytes, d) => bytes.length + uptoBulk d + 1
  | (_, d) => uptoBulk d + 1
 end
def uptoSmall : (H : Type) → List (DataW H) → Bool := fun _ ds => decide (uptoBulkAll ds ≤ 1048576)
def OpenSpec.upto (s : _root_.Go.ChangeSpec) : _root_.Go.OpenSpec := { _root_.Go.OpenSpec.ofChange s with cond := some uptoSmall }

/-- 'wimplelaw15.CutsTrace', WHERE WHAT IT READS IS OF BULK AT MOST 1048576: true; the input reads as it did. -/
def cutsTraceUptoRow : OpenClaim := { program := "ytnjgdfmldjgloaa", sum := "dea662b3972f552e6669f1de950351131e18975af95fd52a47df151423e02a1b", func := "wimple/wimplelaw15.CutsTrace", spec := "cutsTrace", unfollowed := true, recurses := true, plainKeys := false, apart := false, narrowed := true }
def CutsTraceUptoSaid : Prop := cutsTraceUptoRow.holds Try.pinned (OpenSpec.upto cutsTraceSpec)

/-- 'wimplelaw15.CutsRoom', WHERE WHAT IT READS IS OF BULK AT MOST 1048576: true; the input reads as it did. -/
def cutsRoomUptoRow : OpenClaim := { program := "ytnjgdfmldjgloaa", sum := "dea662b3972f552e6669f1de950351131e18975af95fd52a47df151423e02a1b", func := "wimple/wimplelaw15.CutsRoom", spec := "cutsRoom", unfollowed := true, recurses := true, plainKeys := false, apart := false, narrowed := true }
def CutsRoomUptoSaid : Prop := cutsRoomUptoRow.holds Try.pinned (OpenSpec.upto cutsRoomSpec)

/-- 'wimplelaw15.CutsForms', WHERE WHAT IT READS IS OF BULK AT MOST 1048576: true; the input reads as it did. -/
def cutsFormsUptoRow : OpenClaim := { program := "ytnjgdfmldjgloaa", sum := "dea662b3972f552e6669f1de950351131e18975af95fd52a47df151423e02a1b", func := "wimple/wimplelaw15.CutsForms", spec := "cutsForms", unfollowed := true, recurses := true, plainKeys := false, apart := false, narrowed := true }
def CutsFormsUptoSaid : Prop := cutsFormsUptoRow.holds Try.pinned (OpenSpec.upto cutsFormsSpec)

/-- 'wimplelaw15.CutsDeep', WHERE WHAT IT READS IS OF BULK AT MOST 1048576: true; the input reads as it did. -/
def cutsDeepUptoRow : OpenClaim := { program := "ytnjgdfmldjgloaa", sum := "dea662b3972f552e6669f1de950351131e18975af95fd52a47df151423e02a1b", func := "wimple/wimplelaw15.CutsDeep", spec := "cutsDeep", unfollowed := true, recurses := true, plainKeys := false, apart := false, narrowed := true }
def CutsDeepUptoSaid : Prop := cutsDeepUptoRow.holds Try.pinned (OpenSpec.upto cutsDeepSpec)

/-- 'wimplelaw15.CutsLearn', WHERE WHAT IT READS IS OF BULK AT MOST 1048576: true; the input reads as it did. -/
def cutsLearnUptoRow : OpenClaim := { program := "ytnjgdfmldjgloaa", sum := "dea662b3972f552e6669f1de950351131e18975af95fd52a47df151423e02a1b", func := "wimple/wimplelaw15.CutsLearn", spec := "cutsLearn", unfollowed := true, recurses := true, plainKeys := false, apart := false, narrowed := true }
def CutsLearnUptoSaid : Prop := cutsLearnUptoRow.holds Try.pinned (OpenSpec.upto cutsLearnSpec)

end Rows
end Go.Proofs.Ytnjgdfmldjgloaa
