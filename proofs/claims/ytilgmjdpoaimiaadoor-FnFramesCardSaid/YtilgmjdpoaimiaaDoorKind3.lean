/- The contracts of the program's functions on kinds: KindOf and TextIn. -/
import Derived.Test.YtilgmjdpoaimiaaDoorKind2
namespace Go.Proofs.YtilgmjdpoaimiaaDoor
open Go.RowKit
end Go.Proofs.YtilgmjdpoaimiaaDoor
