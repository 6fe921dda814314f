/- The contracts of the exact laws' own helpers on slices of triples. -/
import Derived.Test.YtilgmjdpoaimiaaDoorTris
import Derived.Test.YtilgmjdpoaimiaaDoorExactT
namespace Go.Proofs.YtilgmjdpoaimiaaDoor
open Go.RowKit Go.WideShapes
/-- The place of a slice that has an element, and its cells. -/
theorem IsTris.cells {w : World} {a : Option Addr} {len cap : Nat} {ts : List Tri3} (h : IsTris w a len cap ts) (h0 : 0 < len) : ∃ b off, a = some ⟨b, off, none⟩ ∧ b < w.heap.size ∧ len ≤ cap ∧ cap ≤ maxLen ∧ ts.length = len ∧
    ∀ (i : Nat) (t : Tri3), ts[i]? = some t → w.cell? ⟨b, off + i * 3, none⟩ = some (.string t.1) ∧ w.cell? ⟨b, off + i * 3 + 1, none⟩ = some (.string t.2.1) ∧ w.cell? ⟨b, off + i * 3 + 2, none⟩ = some (.string t.2.2) ∧ t.1.size ≤ maxLen ∧ t.2.1.size ≤ maxLen ∧ t.2.2.size ≤ maxLen := by
  rcases h with ⟨_, rfl, _⟩ | ⟨x, rfl, h1, h2, h3, h4⟩
  · omega
  · obtain ⟨b, off, spot⟩ := x
    have ht : ts[0]? = some ts[0] := List.getElem?_eq_getElem (by omega)
    have hc := (h4 0 _ ht).1
    obtain rfl : spot = none := by simpa [Addr.add] using World.cell?_spot hc
    refine ⟨b, off, rfl, ?_, h1, h2, h3, fun i t hi => ?_⟩
    · have := World.block_lt_of_cell? _ _ hc
      simpa [Addr.add] using this
    · obtain ⟨c0, c1, c2, w0, w1, w2⟩ := h4 i t hi
      rw [add_plain] at c0 c1 c2
      rw [Nat.mul_comm] at c0 c1 c2
      exact ⟨c0, by rw [Nat.add_assoc]; exact c1, by rw [Nat.add_assoc]; exact c2, w0, w1, w2⟩
/-- What a size that is not below 0 says of the triples. -/
def Small (len : Nat) (ts : List Tri3) : Prop := len ≤ 1048576 ∧ ∀ t ∈ ts, t.1.size + t.2.1.size + t.2.2.size ≤ 1048576
def SzPost (left : Int) (len : Nat) (ts : List Tri3) (w : World) (e : Ending) (w' : World) : Prop :=
  ∃ n : Int, e = .returned (.int .i64 n) ∧ (n = -1 ∨ (0 ≤ n ∧ n ≤ left ∧ Small len ts)) ∧ Below w.heap.size w w'
end Go.Proofs.YtilgmjdpoaimiaaDoor
