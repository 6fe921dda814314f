/- Slices of triples that the call owns: plain facts. -/
import Derived.Test.YtilgmjdpoaimiaaDoorRise
import Derived.Test.YtilgmjdpoaimiaaDoorGraph
import Derived.Test.YtilgmjdpoaimiaaDoorBox
import Derived.Outline
namespace Go.Proofs.YtilgmjdpoaimiaaDoor
open Go.RowKit Go.WideShapes
theorem three_cell {w : World} {u v z : Value} {e : Nat} : ∀ (j : Nat) (x : Value), [u, v, z][j]? = some x → (w.alloc (.cells #[u, v, z] e)).cell? ((⟨w.heap.size, 0, none⟩ : Addr).add j) = some x := by
  intro j x hj
  match j, hj with
  | 0, hj => simp at hj; subst hj; simp [Addr.add]
  | 1, hj => simp at hj; subst hj; simp [Addr.add]
  | 2, hj => simp at hj; subst hj; simp [Addr.add]
end Go.Proofs.YtilgmjdpoaimiaaDoor
