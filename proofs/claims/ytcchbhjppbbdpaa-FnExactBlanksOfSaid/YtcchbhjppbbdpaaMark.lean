/- Triples that are marked: what they hold. -/
import Derived.Test.YtcchbhjppbbdpaaMarkO
import Derived.Test.YtcchbhjppbbdpaaReadGM
import Derived.Deep.RegionHeld3
namespace Go.Proofs.Ytcchbhjppbbdpaa
open Go.RowKit Go.WideShapes
end Go.Proofs.Ytcchbhjppbbdpaa
