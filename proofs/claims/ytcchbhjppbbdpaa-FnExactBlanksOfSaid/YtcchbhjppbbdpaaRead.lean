/- The contracts of the functions that read a triple. -/
import Derived.Test.YtcchbhjppbbdpaaReadM
import Derived.Outline
namespace Go.Proofs.Ytcchbhjppbbdpaa
open Go.RowKit
theorem cell_of_blk {w : World} {g j : Nat} {cs : Array Value} {T : TypeId} {fr : Nat × Nat} (h : w.heap[g]? = some (.cells cs T fr)) {v : Value} (hj : cs[j]? = some v) : w.cell? ⟨g, j, none⟩ = some v := by
  simp [World.cell?, h, hj]
theorem free_of_blk {w : World} {g j : Nat} {cs : Array Value} {T : TypeId} (h : w.heap[g]? = some (.cells cs T (0, 0))) : w.frozen? ⟨g, j, none⟩ = false := by
  simp [World.frozen?, h]
/-- What is read of a triple, as the value that the program returns. -/
def readV (r : Option (List UInt8 × List UInt8 × List UInt8)) : Value := .tuple #[.agg #[.string (bs (r.getD ([], [], [])).1), .string (bs (r.getD ([], [], [])).2.1), .string (bs (r.getD ([], [], [])).2.2)], .bool r.isSome]
end Go.Proofs.Ytcchbhjppbbdpaa
