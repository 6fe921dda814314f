/- The contracts of the functions on triples that tell which is ahead. -/
import Derived.Test.YtilgmjdpoaimiaaDoorTri
namespace Go.Proofs.YtilgmjdpoaimiaaDoor
open Go.RowKit
def aheadL (s p o s' p' o' : List UInt8) : Bool := if s = s' then (if p = p' then Op.bytesLess o o' else Op.bytesLess p p') else Op.bytesLess s s'
theorem data_inj {a b : ByteArray} (h : a.data.toList = b.data.toList) : a = b := by rw [← bs_of a, ← bs_of b, h]
end Go.Proofs.YtilgmjdpoaimiaaDoor
