/- Blocks, rows and what calls leave of them, where the seat has no text of package wire's to take them from. -/
import Derived.Test.YtbffnicfibfceaaXP8
import Derived.Lib.BufferWrite
import Derived.Lib.UnsafeStr
import Derived.Lib.AppendStr
import Derived.Laws.MakeOwn
import Derived.Deep.WholeRow
import Derived.Deep.AppendSrc
import Derived.Deep.Upon
import Derived.Deep.RegionHeld3
import Derived.Deep.RegionLawGrows
import Derived.SizedLaws
namespace Go.Proofs.Ytbffnicfibfceaa
open Go.RowKit


end Go.Proofs.Ytbffnicfibfceaa
