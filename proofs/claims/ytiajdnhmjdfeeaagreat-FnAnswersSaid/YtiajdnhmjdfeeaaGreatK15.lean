/- A slice of triples of whatever length that is marked, from whatever number on.; A slice of triples that is marked from whatever number on, and looked at again.; The exact laws' steps at slices of triples, told by where things lie. -/
import Derived.Test.YtiajdnhmjdfeeaaGreatK10
import Derived.Test.YtiajdnhmjdfeeaaGreatK14
import Derived.Test.YtiajdnhmjdfeeaaGreatK03
import Derived.Test.YtiajdnhmjdfeeaaGreatK08
namespace Go.Proofs.YtiajdnhmjdfeeaaGreat
open Go.RowKit Go.WideShapes
end Go.Proofs.YtiajdnhmjdfeeaaGreat
namespace Go.Proofs.YtiajdnhmjdfeeaaGreat
open Go.RowKit Go.WideShapes
def markK (k0 i : Nat) : Tri3 := (mark (k0 + 3 * i), mark (k0 + 3 * i + 1), mark (k0 + 3 * i + 2))
def marksK (k0 n : Nat) : List Tri3 := (List.range n).map (markK k0)
end Go.Proofs.YtiajdnhmjdfeeaaGreat
namespace Go.Proofs.YtiajdnhmjdfeeaaGreat
open Go.RowKit Go.WideShapes
def SmAll (ts : List Tri3) : Prop := ∀ t ∈ ts, t.1.size ≤ maxLen ∧ t.2.1.size ≤ maxLen ∧ t.2.2.size ≤ maxLen
theorem Cells.two {g : Nat} {x y : Value} {T : TypeId} {w : World} (h : Cells g #[x, y] T w) : w.cell? ⟨g, 0, none⟩ = some x ∧ w.cell? ⟨g, 1, none⟩ = some y := ⟨h.at 0, h.at 1⟩
theorem OwnC.read {B C : Nat} {w : World} {a : Option Addr} {n c : Nat} {ts : List Tri3} (h : OwnC B C (.slice a n c) ts w) (hm : SmAll ts) (hl : ts.length = n) : IsTris w a n c ts := by
  subst hl
  obtain ⟨x, y, e, i⟩ := h.1.is hm
  simp only [Value.slice.injEq, true_and] at e
  obtain ⟨rfl, rfl⟩ := e
  exact i
end Go.Proofs.YtiajdnhmjdfeeaaGreat
