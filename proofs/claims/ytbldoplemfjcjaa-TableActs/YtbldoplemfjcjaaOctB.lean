/- What awake gives: true. -/
import Derived.Test.YtbldoplemfjcjaaOctA
namespace Go.Proofs.Ytbldoplemfjcjaa
open Go.RowKit



end Go.Proofs.Ytbldoplemfjcjaa
