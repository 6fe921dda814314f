/- The contracts of the functions on triples: their texts, and which is ahead. -/
import Derived.Test.YtapcbhpkbdlinabTriA
namespace Go.Proofs.Ytapcbhpkbdlinab
open Go.RowKit
def triText (s p o : List UInt8) : List UInt8 := if triOk s p o then s ++ 32 :: (p ++ 32 :: (o ++ [32, 46])) else []
theorem join_text (s p o : ByteArray) : s ++ { data := #[32] } ++ p ++ { data := #[32] } ++ o ++ { data := #[32, 46] } = bs (s.data.toList ++ 32 :: (p.data.toList ++ 32 :: (o.data.toList ++ [32, 46]))) := by
  apply bs_eq
  simp
end Go.Proofs.Ytapcbhpkbdlinab
