/- What awake gives: true. -/
import Derived.Test.YtpfbmemejajbjaaOctA
namespace Go.Proofs.Ytpfbmemejajbjaa
open Go.RowKit



end Go.Proofs.Ytpfbmemejajbjaa
