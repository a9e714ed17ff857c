/- What awake gives: true. -/
import Derived.Test.YtnjlfbcfnmdkkaaOctA
namespace Go.Proofs.Ytnjlfbcfnmdkkaa
open Go.RowKit



end Go.Proofs.Ytnjlfbcfnmdkkaa
