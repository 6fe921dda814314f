/- The contract of the model's function that reads a triple. -/
import Derived.Test.YtcchbhjppbbdpaaRead
namespace Go.Proofs.Ytcchbhjppbbdpaa
open Go.RowKit
end Go.Proofs.Ytcchbhjppbbdpaa
