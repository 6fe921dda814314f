/- The contracts of the program's functions on kinds. -/
import Derived.Test.YtilgmjdpoaimiaaDoorKindM
import Derived.Test.YtilgmjdpoaimiaaDoorShelf
namespace Go.Proofs.YtilgmjdpoaimiaaDoor
open Go.RowKit
end Go.Proofs.YtilgmjdpoaimiaaDoor
