/- The contracts of the program's functions on kinds: what a word is, and what a text has in it. -/
import Derived.Test.YtilgmjdpoaimiaaDoorKind
namespace Go.Proofs.YtilgmjdpoaimiaaDoor
open Go.RowKit
end Go.Proofs.YtilgmjdpoaimiaaDoor
