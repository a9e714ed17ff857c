/- What awake gives: true. -/
import Derived.Test.YtpaebheklhlipaaOctA
namespace Go.Proofs.Ytpaebheklhlipaa
open Go.RowKit



end Go.Proofs.Ytpaebheklhlipaa
