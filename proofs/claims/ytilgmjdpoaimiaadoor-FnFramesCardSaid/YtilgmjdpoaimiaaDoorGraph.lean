/- The contracts of the functions that tell whether a graph is right. -/
import Derived.Test.YtilgmjdpoaimiaaDoorRise
import Derived.Deep.RegionHeld3
import Derived.Deep.RegionWith
namespace Go.Proofs.YtilgmjdpoaimiaaDoor
open Go.RowKit Go.WideShapes
open Go.RowKit Go.WideShapes
end Go.Proofs.YtilgmjdpoaimiaaDoor
