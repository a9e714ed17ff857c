/- What awake gives: true. -/
import Derived.Test.YtnecdpieoipjdaaOctA
namespace Go.Proofs.Ytnecdpieoipjdaa
open Go.RowKit



end Go.Proofs.Ytnecdpieoipjdaa
