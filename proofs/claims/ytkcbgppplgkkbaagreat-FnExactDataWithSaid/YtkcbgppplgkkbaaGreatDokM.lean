/- DataOk of both sides: what a right dataset is. -/
import Derived.Test.YtkcbgppplgkkbaaGreatNamZ
import Derived.Test.YtkcbgppplgkkbaaGreatGraph
import Derived.Deep.RegionHeld3
import Derived.Deep.RegionWith
namespace Go.Proofs.YtkcbgppplgkkbaaGreat
open Go.RowKit Go.WideShapes
def namT (r : NamV) : Bool := decide (kindL r.1.data.toList = 1) && (graphOk r.2 && decide (0 < r.2.length))
def lessN (t u : NamV) : Bool := Op.bytesLess t.1.toList u.1.toList
/-- A right dataset. -/
def dataOk (rs : List NamV) : Bool := decide (rs.length ≤ 6) && gUpto namT lessN rs rs.length
theorem SmN.sm {rs : List NamV} (h : SmN rs) {r : NamV} (hr : r ∈ rs) : Sm r.2 := fun t ht => by have := (h r hr).2 t ht; omega
end Go.Proofs.YtkcbgppplgkkbaaGreat
