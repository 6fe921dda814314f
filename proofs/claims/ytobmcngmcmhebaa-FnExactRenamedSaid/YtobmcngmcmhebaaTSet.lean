/- Slices of triples become one map of them; such a map becomes a graph. -/
import Derived.Test.YtobmcngmcmhebaaSet
import Derived.Test.YtobmcngmcmhebaaSetM
namespace Go.Proofs.Ytobmcngmcmhebaa
open Go.RowKit Go.WideShapes Go.Maps
/-- A slice as a value's parts, and the triples that its cells hold. -/
abbrev Sl := Option Addr × Nat × Nat × List Tri3
def allT (LS : List Sl) : List Tri3 := LS.flatMap fun x => x.2.2.2
theorem allT_snoc (LS : List Sl) (x : Sl) : allT (LS ++ [x]) = allT LS ++ x.2.2.2 := by simp [allT]
theorem allT_take_le (LS : List Sl) (j : Nat) : (allT (LS.take j)).length ≤ (allT LS).length := by
  have : allT LS = allT (LS.take j) ++ allT (LS.drop j) := by unfold allT; rw [← List.flatMap_append, List.take_append_drop]
  rw [this, List.length_append]; omega
end Go.Proofs.Ytobmcngmcmhebaa
