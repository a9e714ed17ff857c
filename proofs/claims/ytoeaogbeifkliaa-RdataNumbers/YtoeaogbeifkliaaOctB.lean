/- What awake gives: true. -/
import Derived.Test.YtoeaogbeifkliaaOctA
namespace Go.Proofs.Ytoeaogbeifkliaa
open Go.RowKit



end Go.Proofs.Ytoeaogbeifkliaa
