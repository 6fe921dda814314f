/- A row of bytes stays readable in a grown world. -/
import Derived.Test.YtinmjbgljgljkaaDraw
namespace Go.Proofs.Ytinmjbgljgljkaa
open Go.RowKit Go.WideShapes
theorem grown_new {a b c : World} (h : a.grownBy b none) (k : b.grownBy c (some a.heap.size)) : a.grownBy c none := h.andThen k (by intro j hj; simp at hj; omega)
theorem isRow_grown {k : IntKind} {w w' : World} {a : Option Addr} {len cap : Nat} {zs : List Int} (h : Frame.IsRow k w a len cap zs) (hg : w.grownBy w' none) : Frame.IsRow k w' a len cap zs := by
  refine isRow_keep h fun x hx hz => hg.block _ ?_ (by simp)
  rcases h with ⟨rfl, _⟩ | ⟨y, rfl, h1, h2, h3, h4, h5⟩
  · simp at hx
  · obtain rfl : y = x := by simpa using hx
    have := lt_of_cell (h4 0 hz)
    rwa [add_block] at this
end Go.Proofs.Ytinmjbgljgljkaa
