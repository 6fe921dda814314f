/- The contracts of the functions on triples: which are right. -/
import Derived.Test.YtilgmjdpoaimiaaDoorKind3
import Derived.Test.YtilgmjdpoaimiaaDoorSpecKO
import Derived.Deep.RegionHeld3
namespace Go.Proofs.YtilgmjdpoaimiaaDoor
open Go.RowKit
def triOk (s p o : List UInt8) : Bool := (decide (kindL s = 1) || decide (kindL s = 3)) && decide (kindL p = 1) && (decide (kindL o = 1) || decide (kindL o = 2) || decide (kindL o = 3))
theorem kindL_le (l : List UInt8) : kindL l ≤ 4 := by
  unfold kindL
  split
  · rename_i k r h
    have := shape_len h
    split <;> omega
  · omega
end Go.Proofs.YtilgmjdpoaimiaaDoor
