/- What awake gives: true. -/
import Derived.Test.YtpfbmemejajbjabOctA
namespace Go.Proofs.Ytpfbmemejajbjab
open Go.RowKit



end Go.Proofs.Ytpfbmemejajbjab
