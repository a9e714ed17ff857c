/- What awake gives: true. -/
import Derived.Test.YtnjlfbcfnmdkkabOctA
namespace Go.Proofs.Ytnjlfbcfnmdkkab
open Go.RowKit



end Go.Proofs.Ytnjlfbcfnmdkkab
