/- A block of three cells that the call itself made. -/
import Derived.Test.YtkcbgppplgkkbaaGreatBase
import Derived.Laws.Entries
namespace Go.Proofs.YtkcbgppplgkkbaaGreat
open Go.RowKit
/-- Block g holds just these three cells. -/
def Box (w : World) (g : Nat) (x y z : Value) (T : TypeId) : Prop := w.heap[g]? = some (.cells #[x, y, z] T (0, 0))
theorem Box.lt {w : World} {g : Nat} {x y z : Value} {T : TypeId} (h : Box w g x y z T) : g < w.heap.size := by
  rcases Nat.lt_or_ge g w.heap.size with h1 | h1
  · exact h1
  · simp [Box, Array.getElem?_eq_none h1] at h
theorem Box.next {w w' : World} {g : Nat} {x y z : Value} {T : TypeId} (h : Box w g x y z T) (hb : Below w.heap.size w w') : Box w' g x y z T := (hb.block g h.lt).trans h
theorem Box.alloc {w : World} {g : Nat} {x y z : Value} {T : TypeId} (h : Box w g x y z T) (o : Obj) : Box (w.alloc o) g x y z T := (Below.heap_alloc w o g h.lt).trans h
theorem Box.new (w : World) (x y z : Value) (T : TypeId) : Box (w.alloc (.cells #[x, y, z] T)) w.heap.size x y z T := heap_alloc_new w _
theorem Box.cells {w : World} {g : Nat} {x y z : Value} {T : TypeId} (h : Box w g x y z T) : w.cell? ⟨g, 0, none⟩ = some x ∧ w.cell? ⟨g, 1, none⟩ = some y ∧ w.cell? ⟨g, 2, none⟩ = some z := by
  unfold Box at h
  refine ⟨?_, ?_, ?_⟩ <;> simp [World.cell?, h]
theorem Box.free {w : World} {g : Nat} {x y z : Value} {T : TypeId} (h : Box w g x y z T) : w.frozen? ⟨g, 0, none⟩ = false ∧ w.frozen? ⟨g, 1, none⟩ = false ∧ w.frozen? ⟨g, 2, none⟩ = false := by
  unfold Box at h
  refine ⟨?_, ?_, ?_⟩ <;> simp [World.frozen?, h]
theorem Box.drew {w : World} {g : Nat} {x y z : Value} {T : TypeId} (h : Box w g x y z T) : Box w.drew g x y z T := h
theorem Box.grown {w w' : World} {g : Nat} {x y z : Value} {T : TypeId} {row : Option Nat} (h : Box w g x y z T) (hg : w.grownBy w' row) (hne : some g ≠ row) : Box w' g x y z T := (hg.block g h.lt hne).trans h
theorem Box.far {w : World} {g : Nat} {x y z : Value} {T : TypeId} (h : Box w g x y z T) {a : Addr} (ha : g ≠ a.block) (u : Value) : Box (w.setCell a u) g x y z T := (Below.heap_setCell w a u g ha).trans h
theorem Box.set0 {w : World} {g : Nat} {x y z : Value} {T : TypeId} (h : Box w g x y z T) (u : Value) : Box (w.setCell ⟨g, 0, none⟩ u) g u y z T := by
  unfold Box at h ⊢; simp [World.setCell, Array.getElem?_modify, h]
theorem Box.set1 {w : World} {g : Nat} {x y z : Value} {T : TypeId} (h : Box w g x y z T) (u : Value) : Box (w.setCell ⟨g, 1, none⟩ u) g x u z T := by
  unfold Box at h ⊢; simp [World.setCell, Array.getElem?_modify, h]
theorem grown_setNew {w w' : World} {row : Option Nat} (h : w.grownBy w' row) {a : Addr} (ha : w.heap.size ≤ a.block) (u : Value) : w.grownBy (w'.setCell a u) row := by
  refine ⟨h.os, h.tape, h.output, by have := h.size; simpa [World.setCell] using this, fun k hk hne => ?_⟩
  rw [Below.heap_setCell _ _ _ _ (by omega)]
  exact h.block k hk hne
theorem size_set (w : World) (a : Addr) (u : Value) : (w.setCell a u).heap.size = w.heap.size := by simp [World.setCell]
end Go.Proofs.YtkcbgppplgkkbaaGreat
