/- What Parent, Last and Child of the document's answers give, for every argument. -/
import Derived.Test.YtnecdpieoipjdaaWalkR
namespace Go.Proofs.Ytnecdpieoipjdaa
open Go.RowKit
open Pl

end Go.Proofs.Ytnecdpieoipjdaa
