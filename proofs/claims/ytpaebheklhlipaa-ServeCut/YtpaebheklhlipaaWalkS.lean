/- What Parent, Last and Child of the document's answers give, for every argument. -/
import Derived.Test.YtpaebheklhlipaaWalkR
namespace Go.Proofs.Ytpaebheklhlipaa
open Go.RowKit
open Pl

end Go.Proofs.Ytpaebheklhlipaa
