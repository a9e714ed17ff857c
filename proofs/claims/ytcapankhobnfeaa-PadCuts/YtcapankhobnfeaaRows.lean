/-
  No cell of these rows narrows 'for every input' (looked for: loops, veiled, ifaces, maps, wideKeys, modest, calm, conditions, laid).
  DERIVED. THE GIVEN ROWS OF THIS SEAT. 6 by the template 'for every input the law returns true; each argument reads behind the call as it read before'; 0 by the template 'total and deterministic' (their statements: YtcapankhobnfeaaTotals.lean).
  GIVEN WITH THE SEED: the statements are not yours to turn. If you find one false, say at which input.
  Laid BY PROGRAM, IN A SANDBOX (cutbox-rows.mjs): the forced cells as the released guide's own fill.sh prints them over the translation ddbeee5d4f9182f9… (all of the seat's roots in one cut). By AI agents, Wed Nov 11 2026. No macro, syntax, notation, axiom, sorry.
-/
import Derived.Test.YtcapankhobnfeaaChecked
import GoSem.Claim
import GoSem.ClaimJoined
import GoSem.ClaimMapViews
import Derived.JoinedTies
import Derived.KernelRfl
namespace Go.Proofs.Ytcapankhobnfeaa
/- THE CELL 'sum', in the pinned program and in every row, IS THE sha256 OF THE DUMP (.gsa) THAT YtcapankhobnfeaaProg.lean LOADS. Nothing in Lean hashes anything: it is a label: what it is worth is what the hold of that sum in a sandbox is worth. -/
noncomputable def Try.pinned : Pinned := { name := "ytcapankhobnfeaa", sum := "ddbeee5d4f9182f96415614c98909cc8cc155f22fa09a251d7bf38d8a80ef541", checked := Try.checked }
namespace Rows
def none {H : Type} : Left H := { results := [], args := [] }

/-- 'wimplelaw10.Pads': WHATEVER THE INPUT: true; the input reads as it did. -/
def padsSpec : ChangeSpec := { name := "pads", fn := fun _ => fun
  | [d1, d2, d3, d4, d5, d6, d7] => { results := [.lit (.bool true)], args := [d1, d2, d3, d4, d5, d6, d7] }
  | _ => none }
def padsRow : OpenClaim := { program := "ytcapankhobnfeaa", sum := "ddbeee5d4f9182f96415614c98909cc8cc155f22fa09a251d7bf38d8a80ef541", func := "wimple/wimplelaw10.Pads", spec := "pads", unfollowed := true, recurses := true, apart := false }
def PadsSaid : Prop := padsRow.holds Try.pinned (OpenSpec.ofChange padsSpec)

/-- ITS FALSE NEIGHBOUR: 'it returns false'. Refute it at one input. -/
def padsWrong : ChangeSpec := { name := "pads", fn := fun _ => fun
  | [d1, d2, d3, d4, d5, d6, d7] => { results := [.lit (.bool false)], args := [d1, d2, d3, d4, d5, d6, d7] }
  | _ => none }
def PadsWrongFalsely : Prop := padsRow.holds Try.pinned (OpenSpec.ofChange padsWrong)

/-- 'wimplelaw10.PadQueries': WHATEVER THE INPUT: true; the input reads as it did. -/
def padQueriesSpec : ChangeSpec := { name := "padQueries", fn := fun _ => fun
  | [d1, d2, d3] => { results := [.lit (.bool true)], args := [d1, d2, d3] }
  | _ => none }
def padQueriesRow : OpenClaim := { program := "ytcapankhobnfeaa", sum := "ddbeee5d4f9182f96415614c98909cc8cc155f22fa09a251d7bf38d8a80ef541", func := "wimple/wimplelaw10.PadQueries", spec := "padQueries", unfollowed := true, recurses := true, apart := false }
def PadQueriesSaid : Prop := padQueriesRow.holds Try.pinned (OpenSpec.ofChange padQueriesSpec)

/-- ITS FALSE NEIGHBOUR: 'it returns false'. Refute it at one input. -/
def padQueriesWrong : ChangeSpec := { name := "padQueries", fn := fun _ => fun
  | [d1, d2, d3] => { results := [.lit (.bool false)], args := [d1, d2, d3] }
  | _ => none }
def PadQueriesWrongFalsely : Prop := padQueriesRow.holds Try.pinned (OpenSpec.ofChange padQueriesWrong)

/-- 'wimplelaw10.PadRooms': WHATEVER THE INPUT: true; the input reads as it did. -/
def padRoomsSpec : ChangeSpec := { name := "padRooms", fn := fun _ => fun
  | [d1, d2] => { results := [.lit (.bool true)], args := [d1, d2] }
  | _ => none }
def padRoomsRow : OpenClaim := { program := "ytcapankhobnfeaa", sum := "ddbeee5d4f9182f96415614c98909cc8cc155f22fa09a251d7bf38d8a80ef541", func := "wimple/wimplelaw10.PadRooms", spec := "padRooms", unfollowed := true, recurses := true, apart := false }
def PadRoomsSaid : Prop := padRoomsRow.holds Try.pinned (OpenSpec.ofChange padRoomsSpec)

/-- ITS FALSE NEIGHBOUR: 'it returns false'. Refute it at one input. -/
def padRoomsWrong : ChangeSpec := { name := "padRooms", fn := fun _ => fun
  | [d1, d2] => { results := [.lit (.bool false)], args := [d1, d2] }
  | _ => none }
def PadRoomsWrongFalsely : Prop := padRoomsRow.holds Try.pinned (OpenSpec.ofChange padRoomsWrong)

/-- 'wimplelaw10.PadAnswers': WHATEVER THE INPUT: true; the input reads as it did. -/
def padAnswersSpec : ChangeSpec := { name := "padAnswers", fn := fun _ => fun
  | [d1, d2] => { results := [.lit (.bool true)], args := [d1, d2] }
  | _ => none }
def padAnswersRow : OpenClaim := { program := "ytcapankhobnfeaa", sum := "ddbeee5d4f9182f96415614c98909cc8cc155f22fa09a251d7bf38d8a80ef541", func := "wimple/wimplelaw10.PadAnswers", spec := "padAnswers", unfollowed := true, recurses := true, apart := false }
def PadAnswersSaid : Prop := padAnswersRow.holds Try.pinned (OpenSpec.ofChange padAnswersSpec)

/-- ITS FALSE NEIGHBOUR: 'it returns false'. Refute it at one input. -/
def padAnswersWrong : ChangeSpec := { name := "padAnswers", fn := fun _ => fun
  | [d1, d2] => { results := [.lit (.bool false)], args := [d1, d2] }
  | _ => none }
def PadAnswersWrongFalsely : Prop := padAnswersRow.holds Try.pinned (OpenSpec.ofChange padAnswersWrong)

/-- 'wimplelaw10.PadCuts': WHATEVER THE INPUT: true; the input reads as it did. -/
def padCutsSpec : ChangeSpec := { name := "padCuts", fn := fun _ => fun
  | [d1, d2, d3] => { results := [.lit (.bool true)], args := [d1, d2, d3] }
  | _ => none }
def padCutsRow : OpenClaim := { program := "ytcapankhobnfeaa", sum := "ddbeee5d4f9182f96415614c98909cc8cc155f22fa09a251d7bf38d8a80ef541", func := "wimple/wimplelaw10.PadCuts", spec := "padCuts", unfollowed := true, recurses := true, apart := false }
def PadCutsSaid : Prop := padCutsRow.holds Try.pinned (OpenSpec.ofChange padCutsSpec)

/-- ITS FALSE NEIGHBOUR: 'it returns false'. Refute it at one input. -/
def padCutsWrong : ChangeSpec := { name := "padCuts", fn := fun _ => fun
  | [d1, d2, d3] => { results := [.lit (.bool false)], args := [d1, d2, d3] }
  | _ => none }
def PadCutsWrongFalsely : Prop := padCutsRow.holds Try.pinned (OpenSpec.ofChange padCutsWrong)

/-- 'wimplelaw10.PadForms': WHATEVER THE INPUT: true; the input reads as it did. -/
def padFormsSpec : ChangeSpec := { name := "padForms", fn := fun _ => fun
  | [d1, d2, d3] => { results := [.lit (.bool true)], args := [d1, d2, d3] }
  | _ => none }
def padFormsRow : OpenClaim := { program := "ytcapankhobnfeaa", sum := "ddbeee5d4f9182f96415614c98909cc8cc155f22fa09a251d7bf38d8a80ef541", func := "wimple/wimplelaw10.PadForms", spec := "padForms", unfollowed := true, recurses := true, apart := false }
def PadFormsSaid : Prop := padFormsRow.holds Try.pinned (OpenSpec.ofChange padFormsSpec)

/-- ITS FALSE NEIGHBOUR: 'it returns false'. Refute it at one input. -/
def padFormsWrong : ChangeSpec := { name := "padForms", fn := fun _ => fun
  | [d1, d2, d3] => { results := [.lit (.bool false)], args := [d1, d2, d3] }
  | _ => none }
def PadFormsWrongFalsely : Prop := padFormsRow.holds Try.pinned (OpenSpec.ofChange padFormsWrong)

/- THE SECOND FORM. 'bulk': how many values and letters a reading holds, each counted each time it is reached (what is shared counts as often as it is met; a slice's spare places count too). A statement '..UptoSaid' is the law's where the arguments, and the package variables that the reading takes, are together of bulk at most 1048576: NARROWER than '..Said'. Prove '..Said' where nothing that the law and all that it calls make is longer than what came in: it says more and counts as full. Else prove '..UptoSaid'. A law counts once. -/
mutual
def uptoBulk {H : Type} : DataW H → Nat
  | .lit (.string bytes) => bytes.length + 1
  | .lit _ => 1
  | .nil => 1
  | .ptr d => uptoBulk d + 1
  | .slice elems spare => uptoBulkAll elems + uptoBulkAll spare + 1
  | .agg parts => uptoBulkAll parts + 1
  | .iface _ d => uptoBulk d + 1
  | .map entries => uptoBulkEntries entries + 1
  | .held _ => 1
def uptoBulkAll {H : Type} : List (DataW H) → Nat
  | [] => 0
  | d :: r => uptoBulk d + uptoBulkAll r
def uptoBulkEntries {H : Type} : List (Lit × DataW H) → Nat
  | [] => 0
  | x :: r => uptoBulkEntry x + uptoBulkEntries r
def uptoBulkEntry {H : Type} : Lit × DataW H → Nat
  | (.string bytes, d) => bytes.length + uptoBulk d + 1
  | (_, d) => uptoBulk d + 1
 end
def uptoSmall : (H : Type) → List (DataW H) → Bool := fun _ ds => decide (uptoBulkAll ds ≤ 1048576)
def OpenSpec.upto (s : _root_.Go.ChangeSpec) : _root_.Go.OpenSpec := { _root_.Go.OpenSpec.ofChange s with cond := some uptoSmall }

/-- 'wimplelaw10.Pads', WHERE WHAT IT READS IS OF BULK AT MOST 1048576: true; the input reads as it did. -/
def padsUptoRow : OpenClaim := { program := "ytcapankhobnfeaa", sum := "ddbeee5d4f9182f96415614c98909cc8cc155f22fa09a251d7bf38d8a80ef541", func := "wimple/wimplelaw10.Pads", spec := "pads", unfollowed := true, recurses := true, apart := false, narrowed := true }
def PadsUptoSaid : Prop := padsUptoRow.holds Try.pinned (OpenSpec.upto padsSpec)

/-- 'wimplelaw10.PadQueries', WHERE WHAT IT READS IS OF BULK AT MOST 1048576: true; the input reads as it did. -/
def padQueriesUptoRow : OpenClaim := { program := "ytcapankhobnfeaa", sum := "ddbeee5d4f9182f96415614c98909cc8cc155f22fa09a251d7bf38d8a80ef541", func := "wimple/wimplelaw10.PadQueries", spec := "padQueries", unfollowed := true, recurses := true, apart := false, narrowed := true }
def PadQueriesUptoSaid : Prop := padQueriesUptoRow.holds Try.pinned (OpenSpec.upto padQueriesSpec)

/-- 'wimplelaw10.PadRooms', WHERE WHAT IT READS IS OF BULK AT MOST 1048576: true; the input reads as it did. -/
def padRoomsUptoRow : OpenClaim := { program := "ytcapankhobnfeaa", sum := "ddbeee5d4f9182f96415614c98909cc8cc155f22fa09a251d7bf38d8a80ef541", func := "wimple/wimplelaw10.PadRooms", spec := "padRooms", unfollowed := true, recurses := true, apart := false, narrowed := true }
def PadRoomsUptoSaid : Prop := padRoomsUptoRow.holds Try.pinned (OpenSpec.upto padRoomsSpec)

/-- 'wimplelaw10.PadAnswers', WHERE WHAT IT READS IS OF BULK AT MOST 1048576: true; the input reads as it did. -/
def padAnswersUptoRow : OpenClaim := { program := "ytcapankhobnfeaa", sum := "ddbeee5d4f9182f96415614c98909cc8cc155f22fa09a251d7bf38d8a80ef541", func := "wimple/wimplelaw10.PadAnswers", spec := "padAnswers", unfollowed := true, recurses := true, apart := false, narrowed := true }
def PadAnswersUptoSaid : Prop := padAnswersUptoRow.holds Try.pinned (OpenSpec.upto padAnswersSpec)

/-- 'wimplelaw10.PadCuts', WHERE WHAT IT READS IS OF BULK AT MOST 1048576: true; the input reads as it did. -/
def padCutsUptoRow : OpenClaim := { program := "ytcapankhobnfeaa", sum := "ddbeee5d4f9182f96415614c98909cc8cc155f22fa09a251d7bf38d8a80ef541", func := "wimple/wimplelaw10.PadCuts", spec := "padCuts", unfollowed := true, recurses := true, apart := false, narrowed := true }
def PadCutsUptoSaid : Prop := padCutsUptoRow.holds Try.pinned (OpenSpec.upto padCutsSpec)

/-- 'wimplelaw10.PadForms', WHERE WHAT IT READS IS OF BULK AT MOST 1048576: true; the input reads as it did. -/
def padFormsUptoRow : OpenClaim := { program := "ytcapankhobnfeaa", sum := "ddbeee5d4f9182f96415614c98909cc8cc155f22fa09a251d7bf38d8a80ef541", func := "wimple/wimplelaw10.PadForms", spec := "padForms", unfollowed := true, recurses := true, apart := false, narrowed := true }
def PadFormsUptoSaid : Prop := padFormsUptoRow.holds Try.pinned (OpenSpec.upto padFormsSpec)

end Rows
end Go.Proofs.Ytcapankhobnfeaa
