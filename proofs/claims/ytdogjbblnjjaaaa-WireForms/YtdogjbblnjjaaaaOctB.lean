/- What awake gives: true. -/
import Derived.Test.YtdogjbblnjjaaaaOctA
namespace Go.Proofs.Ytdogjbblnjjaaaa
open Go.RowKit



end Go.Proofs.Ytdogjbblnjjaaaa
