/-
  No cell of these rows narrows 'for every input' (looked for: loops, veiled, ifaces, maps, wideKeys, modest, calm, conditions, laid).
  DERIVED. THE GIVEN ROWS OF THIS SEAT. 6 by the template 'for every input the law returns true; each argument reads behind the call as it read before'; 0 by the template 'total and deterministic' (their statements: YtcmhjlflgedcdaaTotals.lean).
  GIVEN WITH THE SEED: the statements are not yours to turn. If you find one false, say at which input.
  Laid BY PROGRAM, IN A SANDBOX (cutbox-rows.mjs): the forced cells as the released guide's own fill.sh prints them over the translation 605d1aeca5c95e32… (all of the seat's roots in one cut). By AI agents, Wed Nov 11 2026. No macro, syntax, notation, axiom, sorry.
-/
import Derived.Test.YtcmhjlflgedcdaaChecked
import GoSem.Claim
import GoSem.ClaimJoined
import GoSem.ClaimMapViews
import Derived.JoinedTies
import Derived.KernelRfl
namespace Go.Proofs.Ytcmhjlflgedcdaa
/- THE CELL 'sum', in the pinned program and in every row, IS THE sha256 OF THE DUMP (.gsa) THAT YtcmhjlflgedcdaaProg.lean LOADS. Nothing in Lean hashes anything: it is a label: what it is worth is what the hold of that sum in a sandbox is worth. -/
noncomputable def Try.pinned : Pinned := { name := "ytcmhjlflgedcdaa", sum := "605d1aeca5c95e32ba06a4b428b30d08312423961496a456db93cb1ebdbaf3c9", checked := Try.checked }
namespace Rows
def none {H : Type} : Left H := { results := [], args := [] }

/-- 'wimplelaw13.StoreActs': WHATEVER THE INPUT: true; the input reads as it did. -/
def storeActsSpec : ChangeSpec := { name := "storeActs", fn := fun _ => fun
  | [d1, d2] => { results := [.lit (.bool true)], args := [d1, d2] }
  | _ => none }
def storeActsRow : OpenClaim := { program := "ytcmhjlflgedcdaa", sum := "605d1aeca5c95e32ba06a4b428b30d08312423961496a456db93cb1ebdbaf3c9", func := "wimple/wimplelaw13.StoreActs", spec := "storeActs", unfollowed := true, recurses := true, plainKeys := false, apart := false }
def StoreActsSaid : Prop := storeActsRow.holds Try.pinned (OpenSpec.ofChange storeActsSpec)

/-- ITS FALSE NEIGHBOUR: 'it returns false'. Refute it at one input. -/
def storeActsWrong : ChangeSpec := { name := "storeActs", fn := fun _ => fun
  | [d1, d2] => { results := [.lit (.bool false)], args := [d1, d2] }
  | _ => none }
def StoreActsWrongFalsely : Prop := storeActsRow.holds Try.pinned (OpenSpec.ofChange storeActsWrong)

/-- 'wimplelaw13.StoreRanks': WHATEVER THE INPUT: true; the input reads as it did. -/
def storeRanksSpec : ChangeSpec := { name := "storeRanks", fn := fun _ => fun
  | [d1, d2, d3, d4] => { results := [.lit (.bool true)], args := [d1, d2, d3, d4] }
  | _ => none }
def storeRanksRow : OpenClaim := { program := "ytcmhjlflgedcdaa", sum := "605d1aeca5c95e32ba06a4b428b30d08312423961496a456db93cb1ebdbaf3c9", func := "wimple/wimplelaw13.StoreRanks", spec := "storeRanks", unfollowed := true, recurses := true, plainKeys := false, apart := false }
def StoreRanksSaid : Prop := storeRanksRow.holds Try.pinned (OpenSpec.ofChange storeRanksSpec)

/-- ITS FALSE NEIGHBOUR: 'it returns false'. Refute it at one input. -/
def storeRanksWrong : ChangeSpec := { name := "storeRanks", fn := fun _ => fun
  | [d1, d2, d3, d4] => { results := [.lit (.bool false)], args := [d1, d2, d3, d4] }
  | _ => none }
def StoreRanksWrongFalsely : Prop := storeRanksRow.holds Try.pinned (OpenSpec.ofChange storeRanksWrong)

/-- 'wimplelaw13.StoreRoom': WHATEVER THE INPUT: true; the input reads as it did. -/
def storeRoomSpec : ChangeSpec := { name := "storeRoom", fn := fun _ => fun
  | [d1, d2] => { results := [.lit (.bool true)], args := [d1, d2] }
  | _ => none }
def storeRoomRow : OpenClaim := { program := "ytcmhjlflgedcdaa", sum := "605d1aeca5c95e32ba06a4b428b30d08312423961496a456db93cb1ebdbaf3c9", func := "wimple/wimplelaw13.StoreRoom", spec := "storeRoom", unfollowed := true, recurses := true, plainKeys := false, apart := false }
def StoreRoomSaid : Prop := storeRoomRow.holds Try.pinned (OpenSpec.ofChange storeRoomSpec)

/-- ITS FALSE NEIGHBOUR: 'it returns false'. Refute it at one input. -/
def storeRoomWrong : ChangeSpec := { name := "storeRoom", fn := fun _ => fun
  | [d1, d2] => { results := [.lit (.bool false)], args := [d1, d2] }
  | _ => none }
def StoreRoomWrongFalsely : Prop := storeRoomRow.holds Try.pinned (OpenSpec.ofChange storeRoomWrong)

/-- 'wimplelaw13.StoreForms': WHATEVER THE INPUT: true; the input reads as it did. -/
def storeFormsSpec : ChangeSpec := { name := "storeForms", fn := fun _ => fun
  | [d1, d2] => { results := [.lit (.bool true)], args := [d1, d2] }
  | _ => none }
def storeFormsRow : OpenClaim := { program := "ytcmhjlflgedcdaa", sum := "605d1aeca5c95e32ba06a4b428b30d08312423961496a456db93cb1ebdbaf3c9", func := "wimple/wimplelaw13.StoreForms", spec := "storeForms", unfollowed := true, recurses := true, plainKeys := false, apart := false }
def StoreFormsSaid : Prop := storeFormsRow.holds Try.pinned (OpenSpec.ofChange storeFormsSpec)

/-- ITS FALSE NEIGHBOUR: 'it returns false'. Refute it at one input. -/
def storeFormsWrong : ChangeSpec := { name := "storeForms", fn := fun _ => fun
  | [d1, d2] => { results := [.lit (.bool false)], args := [d1, d2] }
  | _ => none }
def StoreFormsWrongFalsely : Prop := storeFormsRow.holds Try.pinned (OpenSpec.ofChange storeFormsWrong)

/-- 'wimplelaw13.StoreTtls': WHATEVER THE INPUT: true; the input reads as it did. -/
def storeTtlsSpec : ChangeSpec := { name := "storeTtls", fn := fun _ => fun
  | [d1, d2, d3] => { results := [.lit (.bool true)], args := [d1, d2, d3] }
  | _ => none }
def storeTtlsRow : OpenClaim := { program := "ytcmhjlflgedcdaa", sum := "605d1aeca5c95e32ba06a4b428b30d08312423961496a456db93cb1ebdbaf3c9", func := "wimple/wimplelaw13.StoreTtls", spec := "storeTtls", unfollowed := true, recurses := true, plainKeys := false, apart := false }
def StoreTtlsSaid : Prop := storeTtlsRow.holds Try.pinned (OpenSpec.ofChange storeTtlsSpec)

/-- ITS FALSE NEIGHBOUR: 'it returns false'. Refute it at one input. -/
def storeTtlsWrong : ChangeSpec := { name := "storeTtls", fn := fun _ => fun
  | [d1, d2, d3] => { results := [.lit (.bool false)], args := [d1, d2, d3] }
  | _ => none }
def StoreTtlsWrongFalsely : Prop := storeTtlsRow.holds Try.pinned (OpenSpec.ofChange storeTtlsWrong)

/-- 'wimplelaw13.StoreTies': WHATEVER THE INPUT: true; the input reads as it did. -/
def storeTiesSpec : ChangeSpec := { name := "storeTies", fn := fun _ => fun
  | [d1, d2, d3, d4] => { results := [.lit (.bool true)], args := [d1, d2, d3, d4] }
  | _ => none }
def storeTiesRow : OpenClaim := { program := "ytcmhjlflgedcdaa", sum := "605d1aeca5c95e32ba06a4b428b30d08312423961496a456db93cb1ebdbaf3c9", func := "wimple/wimplelaw13.StoreTies", spec := "storeTies", unfollowed := true, recurses := true, plainKeys := false, apart := false }
def StoreTiesSaid : Prop := storeTiesRow.holds Try.pinned (OpenSpec.ofChange storeTiesSpec)

/-- ITS FALSE NEIGHBOUR: 'it returns false'. Refute it at one input. -/
def storeTiesWrong : ChangeSpec := { name := "storeTies", fn := fun _ => fun
  | [d1, d2, d3, d4] => { results := [.lit (.bool false)], args := [d1, d2, d3, d4] }
  | _ => none }
def StoreTiesWrongFalsely : Prop := storeTiesRow.holds Try.pinned (OpenSpec.ofChange storeTiesWrong)

/- THE SECOND FORM. 'bulk': how many values and letters a reading holds, each counted each time it is reached (what is shared counts as often as it is met; a slice's spare places count too). A statement '..UptoSaid' is the law's where the arguments, and the package variables that the reading takes, are together of bulk at most 1048576: NARROWER than '..Said'. Prove '..Said' where nothing that the law and all that it calls make is longer than what came in: it says more and counts as full. Else prove '..UptoSaid'. A law counts once. -/
mutual
def uptoBulk {H : Type} : DataW H → Nat
  | .lit (.string bytes) => bytes.length + 1
  | .lit _ => 1
  | .nil => 1
  | .ptr d => uptoBulk d + 1
  | .slice elems spare => uptoBulkAll elems + uptoBulkAll spare + 1
  | .agg parts => uptoBulkAll parts + 1
  | .iface _ d => uptoBulk d + 1
  | .map entries => uptoBulkEntries entries + 1
  | .held _ => 1
def uptoBulkAll {H : Type} : List (DataW H) → Nat
  | [] => 0
  | d :: r => uptoBulk d + uptoBulkAll r
def uptoBulkEntries {H : Type} : List (Lit × DataW H) → Nat
  | [] => 0
  | x :: r => uptoBulkEntry x + uptoBulkEntries r
def uptoBulkEntry {H : Type} : Lit × DataW H → Nat
  | (.string bytes, d) => bytes.length + uptoBulk d + 1
  | (_, d) => uptoBulk d + 1
 end
def uptoSmall : (H : Type) → List (DataW H) → Bool := fun _ ds => decide (uptoBulkAll ds ≤ 1048576)
def OpenSpec.upto (s : _root_.Go.ChangeSpec) : _root_.Go.OpenSpec := { _root_.Go.OpenSpec.ofChange s with cond := some uptoSmall }

/-- 'wimplelaw13.StoreActs', WHERE WHAT IT READS IS OF BULK AT MOST 1048576: true; the input reads as it did. -/
def storeActsUptoRow : OpenClaim := { program := "ytcmhjlflgedcdaa", sum := "605d1aeca5c95e32ba06a4b428b30d08312423961496a456db93cb1ebdbaf3c9", func := "wimple/wimplelaw13.StoreActs", spec := "storeActs", unfollowed := true, recurses := true, plainKeys := false, apart := false, narrowed := true }
def StoreActsUptoSaid : Prop := storeActsUptoRow.holds Try.pinned (OpenSpec.upto storeActsSpec)

/-- 'wimplelaw13.StoreRanks', WHERE WHAT IT READS IS OF BULK AT MOST 1048576: true; the input reads as it did. -/
def storeRanksUptoRow : OpenClaim := { program := "ytcmhjlflgedcdaa", sum := "605d1aeca5c95e32ba06a4b428b30d08312423961496a456db93cb1ebdbaf3c9", func := "wimple/wimplelaw13.StoreRanks", spec := "storeRanks", unfollowed := true, recurses := true, plainKeys := false, apart := false, narrowed := true }
def StoreRanksUptoSaid : Prop := storeRanksUptoRow.holds Try.pinned (OpenSpec.upto storeRanksSpec)

/-- 'wimplelaw13.StoreRoom', WHERE WHAT IT READS IS OF BULK AT MOST 1048576: true; the input reads as it did. -/
def storeRoomUptoRow : OpenClaim := { program := "ytcmhjlflgedcdaa", sum := "605d1aeca5c95e32ba06a4b428b30d08312423961496a456db93cb1ebdbaf3c9", func := "wimple/wimplelaw13.StoreRoom", spec := "storeRoom", unfollowed := true, recurses := true, plainKeys := false, apart := false, narrowed := true }
def StoreRoomUptoSaid : Prop := storeRoomUptoRow.holds Try.pinned (OpenSpec.upto storeRoomSpec)

/-- 'wimplelaw13.StoreForms', WHERE WHAT IT READS IS OF BULK AT MOST 1048576: true; the input reads as it did. -/
def storeFormsUptoRow : OpenClaim := { program := "ytcmhjlflgedcdaa", sum := "605d1aeca5c95e32ba06a4b428b30d08312423961496a456db93cb1ebdbaf3c9", func := "wimple/wimplelaw13.StoreForms", spec := "storeForms", unfollowed := true, recurses := true, plainKeys := false, apart := false, narrowed := true }
def StoreFormsUptoSaid : Prop := storeFormsUptoRow.holds Try.pinned (OpenSpec.upto storeFormsSpec)

/-- 'wimplelaw13.StoreTtls', WHERE WHAT IT READS IS OF BULK AT MOST 1048576: true; the input reads as it did. -/
def storeTtlsUptoRow : OpenClaim := { program := "ytcmhjlflgedcdaa", sum := "605d1aeca5c95e32ba06a4b428b30d08312423961496a456db93cb1ebdbaf3c9", func := "wimple/wimplelaw13.StoreTtls", spec := "storeTtls", unfollowed := true, recurses := true, plainKeys := false, apart := false, narrowed := true }
def StoreTtlsUptoSaid : Prop := storeTtlsUptoRow.holds Try.pinned (OpenSpec.upto storeTtlsSpec)

/-- 'wimplelaw13.StoreTies', WHERE WHAT IT READS IS OF BULK AT MOST 1048576: true; the input reads as it did. -/
def storeTiesUptoRow : OpenClaim := { program := "ytcmhjlflgedcdaa", sum := "605d1aeca5c95e32ba06a4b428b30d08312423961496a456db93cb1ebdbaf3c9", func := "wimple/wimplelaw13.StoreTies", spec := "storeTies", unfollowed := true, recurses := true, plainKeys := false, apart := false, narrowed := true }
def StoreTiesUptoSaid : Prop := storeTiesUptoRow.holds Try.pinned (OpenSpec.upto storeTiesSpec)

end Rows
end Go.Proofs.Ytcmhjlflgedcdaa
