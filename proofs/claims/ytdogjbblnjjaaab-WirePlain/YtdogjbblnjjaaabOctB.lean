/- What awake gives: true. -/
import Derived.Test.YtdogjbblnjjaaabOctA
namespace Go.Proofs.Ytdogjbblnjjaaab
open Go.RowKit



end Go.Proofs.Ytdogjbblnjjaaab
