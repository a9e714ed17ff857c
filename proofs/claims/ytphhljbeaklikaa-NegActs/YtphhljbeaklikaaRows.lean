/-
  No cell of these rows narrows 'for every input' (looked for: loops, veiled, ifaces, maps, wideKeys, modest, calm, conditions, laid).
  DERIVED. THE GIVEN ROWS OF THIS SEAT. 5 by the template 'for every input the law returns true; each argument reads behind the call as it read before'; 0 by the template 'total and deterministic' (their statements: YtphhljbeaklikaaTotals.lean).
  GIVEN WITH THE SEED: the statements are not yours to turn. If you find one false, say at which input.
  Laid BY PROGRAM, IN A SANDBOX (cutbox-rows.mjs): the forced cells as the released guide's own fill.sh prints them over the translation dc6fe58c3eb88bc0… (all of the seat's roots in one cut). By AI agents, Wed Nov 11 2026. No macro, syntax, notation, axiom, sorry.
-/
import Derived.Test.YtphhljbeaklikaaChecked
import GoSem.Claim
import GoSem.ClaimJoined
import GoSem.ClaimMapViews
import Derived.JoinedTies
import Derived.KernelRfl
namespace Go.Proofs.Ytphhljbeaklikaa
/- THE CELL 'sum', in the pinned program and in every row, IS THE sha256 OF THE DUMP (.gsa) THAT YtphhljbeaklikaaProg.lean LOADS. Nothing in Lean hashes anything: it is a label: what it is worth is what the hold of that sum in a sandbox is worth. -/
noncomputable def Try.pinned : Pinned := { name := "ytphhljbeaklikaa", sum := "dc6fe58c3eb88bc0baca72b673c31d0628fb00b9b08bdbc3800a6bdb62a87d8a", checked := Try.checked }
namespace Rows
def none {H : Type} : Left H := { results := [], args := [] }

/-- 'wimplelaw14.NegActs': WHATEVER THE INPUT: true; the input reads as it did. -/
def negActsSpec : ChangeSpec := { name := "negActs", fn := fun _ => fun
  | [d1, d2] => { results := [.lit (.bool true)], args := [d1, d2] }
  | _ => none }
def negActsRow : OpenClaim := { program := "ytphhljbeaklikaa", sum := "dc6fe58c3eb88bc0baca72b673c31d0628fb00b9b08bdbc3800a6bdb62a87d8a", func := "wimple/wimplelaw14.NegActs", spec := "negActs", unfollowed := true, recurses := true, plainKeys := false, apart := false }
def NegActsSaid : Prop := negActsRow.holds Try.pinned (OpenSpec.ofChange negActsSpec)

/-- ITS FALSE NEIGHBOUR: 'it returns false'. Refute it at one input. -/
def negActsWrong : ChangeSpec := { name := "negActs", fn := fun _ => fun
  | [d1, d2] => { results := [.lit (.bool false)], args := [d1, d2] }
  | _ => none }
def NegActsWrongFalsely : Prop := negActsRow.holds Try.pinned (OpenSpec.ofChange negActsWrong)

/-- 'wimplelaw14.NegEnds': WHATEVER THE INPUT: true; the input reads as it did. -/
def negEndsSpec : ChangeSpec := { name := "negEnds", fn := fun _ => fun
  | [d1, d2, d3, d4, d5] => { results := [.lit (.bool true)], args := [d1, d2, d3, d4, d5] }
  | _ => none }
def negEndsRow : OpenClaim := { program := "ytphhljbeaklikaa", sum := "dc6fe58c3eb88bc0baca72b673c31d0628fb00b9b08bdbc3800a6bdb62a87d8a", func := "wimple/wimplelaw14.NegEnds", spec := "negEnds", unfollowed := true, recurses := true, plainKeys := false, apart := false }
def NegEndsSaid : Prop := negEndsRow.holds Try.pinned (OpenSpec.ofChange negEndsSpec)

/-- ITS FALSE NEIGHBOUR: 'it returns false'. Refute it at one input. -/
def negEndsWrong : ChangeSpec := { name := "negEnds", fn := fun _ => fun
  | [d1, d2, d3, d4, d5] => { results := [.lit (.bool false)], args := [d1, d2, d3, d4, d5] }
  | _ => none }
def NegEndsWrongFalsely : Prop := negEndsRow.holds Try.pinned (OpenSpec.ofChange negEndsWrong)

/-- 'wimplelaw14.NegForms': WHATEVER THE INPUT: true; the input reads as it did. -/
def negFormsSpec : ChangeSpec := { name := "negForms", fn := fun _ => fun
  | [d1, d2] => { results := [.lit (.bool true)], args := [d1, d2] }
  | _ => none }
def negFormsRow : OpenClaim := { program := "ytphhljbeaklikaa", sum := "dc6fe58c3eb88bc0baca72b673c31d0628fb00b9b08bdbc3800a6bdb62a87d8a", func := "wimple/wimplelaw14.NegForms", spec := "negForms", unfollowed := true, recurses := true, plainKeys := false, apart := false }
def NegFormsSaid : Prop := negFormsRow.holds Try.pinned (OpenSpec.ofChange negFormsSpec)

/-- ITS FALSE NEIGHBOUR: 'it returns false'. Refute it at one input. -/
def negFormsWrong : ChangeSpec := { name := "negForms", fn := fun _ => fun
  | [d1, d2] => { results := [.lit (.bool false)], args := [d1, d2] }
  | _ => none }
def NegFormsWrongFalsely : Prop := negFormsRow.holds Try.pinned (OpenSpec.ofChange negFormsWrong)

/-- 'wimplelaw14.NegRoom': WHATEVER THE INPUT: true; the input reads as it did. -/
def negRoomSpec : ChangeSpec := { name := "negRoom", fn := fun _ => fun
  | [d1, d2] => { results := [.lit (.bool true)], args := [d1, d2] }
  | _ => none }
def negRoomRow : OpenClaim := { program := "ytphhljbeaklikaa", sum := "dc6fe58c3eb88bc0baca72b673c31d0628fb00b9b08bdbc3800a6bdb62a87d8a", func := "wimple/wimplelaw14.NegRoom", spec := "negRoom", unfollowed := true, recurses := true, plainKeys := false, apart := false }
def NegRoomSaid : Prop := negRoomRow.holds Try.pinned (OpenSpec.ofChange negRoomSpec)

/-- ITS FALSE NEIGHBOUR: 'it returns false'. Refute it at one input. -/
def negRoomWrong : ChangeSpec := { name := "negRoom", fn := fun _ => fun
  | [d1, d2] => { results := [.lit (.bool false)], args := [d1, d2] }
  | _ => none }
def NegRoomWrongFalsely : Prop := negRoomRow.holds Try.pinned (OpenSpec.ofChange negRoomWrong)

/-- 'wimplelaw14.NegRows': WHATEVER THE INPUT: true; the input reads as it did. -/
def negRowsSpec : ChangeSpec := { name := "negRows", fn := fun _ => fun
  | [d1, d2] => { results := [.lit (.bool true)], args := [d1, d2] }
  | _ => none }
def negRowsRow : OpenClaim := { program := "ytphhljbeaklikaa", sum := "dc6fe58c3eb88bc0baca72b673c31d0628fb00b9b08bdbc3800a6bdb62a87d8a", func := "wimple/wimplelaw14.NegRows", spec := "negRows", unfollowed := true, recurses := true, plainKeys := false, apart := false }
def NegRowsSaid : Prop := negRowsRow.holds Try.pinned (OpenSpec.ofChange negRowsSpec)

/-- ITS FALSE NEIGHBOUR: 'it returns false'. Refute it at one input. -/
def negRowsWrong : ChangeSpec := { name := "negRows", fn := fun _ => fun
  | [d1, d2] => { results := [.lit (.bool false)], args := [d1, d2] }
  | _ => none }
def NegRowsWrongFalsely : Prop := negRowsRow.holds Try.pinned (OpenSpec.ofChange negRowsWrong)

/- THE SECOND FORM. 'bulk': how many values and letters a reading holds, each counted each time it is reached (what is shared counts as often as it is met; a slice's spare places count too). A statement '..UptoSaid' is the law's where the arguments, and the package variables that the reading takes, are together of bulk at most 1048576: NARROWER than '..Said'. Prove '..Said' where nothing that the law and all that it calls make is longer than what came in: it says more and counts as full. Else prove '..UptoSaid'. A law counts once. -/
mutual
def uptoBulk {H : Type} : DataW H → Nat
  | .lit (.string bytes) => bytes.length + 1
  | .lit _ => 1
  | .nil => 1
  | .ptr d => uptoBulk d + 1
  | .slice elems spare => uptoBulkAll elems + uptoBulkAll spare + 1
  | .agg parts => uptoBulkAll parts + 1
  | .iface _ d => uptoBulk d + 1
  | .map entries => uptoBulkEntries entries + 1
  | .held _ => 1
def uptoBulkAll {H : Type} : List (DataW H) → Nat
  | [] => 0
  | d :: r => uptoBulk d + uptoBulkAll r
def uptoBulkEntries {H : Type} : List (Lit × DataW H) → Nat
  | [] => 0
  | x :: r => uptoBulkEntry x + uptoBulkEntries r
def uptoBulkEntry {H : Type} : Lit × DataW H → Nat
  | (.string bytes, d) => bytes.length + uptoBulk d + 1
  | (_, d) => uptoBulk d + 1
 end
def uptoSmall : (H : Type) → List (DataW H) → Bool := fun _ ds => decide (uptoBulkAll ds ≤ 1048576)
def OpenSpec.upto (s : _root_.Go.ChangeSpec) : _root_.Go.OpenSpec := { _root_.Go.OpenSpec.ofChange s with cond := some uptoSmall }

/-- 'wimplelaw14.NegActs', WHERE WHAT IT READS IS OF BULK AT MOST 1048576: true; the input reads as it did. -/
def negActsUptoRow : OpenClaim := { program := "ytphhljbeaklikaa", sum := "dc6fe58c3eb88bc0baca72b673c31d0628fb00b9b08bdbc3800a6bdb62a87d8a", func := "wimple/wimplelaw14.NegActs", spec := "negActs", unfollowed := true, recurses := true, plainKeys := false, apart := false, narrowed := true }
def NegActsUptoSaid : Prop := negActsUptoRow.holds Try.pinned (OpenSpec.upto negActsSpec)

/-- 'wimplelaw14.NegEnds', WHERE WHAT IT READS IS OF BULK AT MOST 1048576: true; the input reads as it did. -/
def negEndsUptoRow : OpenClaim := { program := "ytphhljbeaklikaa", sum := "dc6fe58c3eb88bc0baca72b673c31d0628fb00b9b08bdbc3800a6bdb62a87d8a", func := "wimple/wimplelaw14.NegEnds", spec := "negEnds", unfollowed := true, recurses := true, plainKeys := false, apart := false, narrowed := true }
def NegEndsUptoSaid : Prop := negEndsUptoRow.holds Try.pinned (OpenSpec.upto negEndsSpec)

/-- 'wimplelaw14.NegForms', WHERE WHAT IT READS IS OF BULK AT MOST 1048576: true; the input reads as it did. -/
def negFormsUptoRow : OpenClaim := { program := "ytphhljbeaklikaa", sum := "dc6fe58c3eb88bc0baca72b673c31d0628fb00b9b08bdbc3800a6bdb62a87d8a", func := "wimple/wimplelaw14.NegForms", spec := "negForms", unfollowed := true, recurses := true, plainKeys := false, apart := false, narrowed := true }
def NegFormsUptoSaid : Prop := negFormsUptoRow.holds Try.pinned (OpenSpec.upto negFormsSpec)

/-- 'wimplelaw14.NegRoom', WHERE WHAT IT READS IS OF BULK AT MOST 1048576: true; the input reads as it did. -/
def negRoomUptoRow : OpenClaim := { program := "ytphhljbeaklikaa", sum := "dc6fe58c3eb88bc0baca72b673c31d0628fb00b9b08bdbc3800a6bdb62a87d8a", func := "wimple/wimplelaw14.NegRoom", spec := "negRoom", unfollowed := true, recurses := true, plainKeys := false, apart := false, narrowed := true }
def NegRoomUptoSaid : Prop := negRoomUptoRow.holds Try.pinned (OpenSpec.upto negRoomSpec)

/-- 'wimplelaw14.NegRows', WHERE WHAT IT READS IS OF BULK AT MOST 1048576: true; the input reads as it did. -/
def negRowsUptoRow : OpenClaim := { program := "ytphhljbeaklikaa", sum := "dc6fe58c3eb88bc0baca72b673c31d0628fb00b9b08bdbc3800a6bdb62a87d8a", func := "wimple/wimplelaw14.NegRows", spec := "negRows", unfollowed := true, recurses := true, plainKeys := false, apart := false, narrowed := true }
def NegRowsUptoSaid : Prop := negRowsUptoRow.holds Try.pinned (OpenSpec.upto negRowsSpec)

end Rows
end Go.Proofs.Ytphhljbeaklikaa
