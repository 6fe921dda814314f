/- WithI, the rest. -/
import Derived.Test.YtobmcngmcmhebaaWithI
namespace Go.Proofs.Ytobmcngmcmhebaa
open Go.RowKit Go.WideShapes Go.Maps
open Go.RowKit Go.WideShapes Go.Maps
theorem zeroB (w : World) : (zeroValue 4).run Try.prog w = .ok (.bool false) w := by kernel_rfl
theorem allT_two (a b : Option Addr) (la ca lb cb : Nat) (ts us : List Tri3) : allT [(a, la, ca, ts), (b, lb, cb, us)] = ts ++ us := by simp [allT]
end Go.Proofs.Ytobmcngmcmhebaa
