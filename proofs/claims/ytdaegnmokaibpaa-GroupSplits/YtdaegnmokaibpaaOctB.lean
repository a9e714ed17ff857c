/- What awake gives: true. -/
import Derived.Test.YtdaegnmokaibpaaOctA
namespace Go.Proofs.Ytdaegnmokaibpaa
open Go.RowKit



end Go.Proofs.Ytdaegnmokaibpaa
