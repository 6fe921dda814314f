/- Slices of triples that the call owns: plain facts. -/
import Derived.Test.YtkcbgppplgkkbaaGreatRise
import Derived.Test.YtkcbgppplgkkbaaGreatGraph
import Derived.Test.YtkcbgppplgkkbaaGreatBox
import Derived.Outline
namespace Go.Proofs.YtkcbgppplgkkbaaGreat
open Go.RowKit Go.WideShapes
theorem own3_snoc {B : Nat} {w : World} {v : Value} {ts : List Tri3} {t : Tri3} (h : w.ownsRow B 31 3 v (ts.length + 1) (flat ts ++ [.string t.1, .string t.2.1, .string t.2.2])) : OwnT B w v (ts ++ [t]) := by
  unfold OwnT; rw [flat_snoc, List.length_append]; exact h
theorem three_cell {w : World} {u v z : Value} {e : Nat} : ∀ (j : Nat) (x : Value), [u, v, z][j]? = some x → (w.alloc (.cells #[u, v, z] e)).cell? ((⟨w.heap.size, 0, none⟩ : Addr).add j) = some x := by
  intro j x hj
  match j, hj with
  | 0, hj => simp at hj; subst hj; simp [Addr.add]
  | 1, hj => simp at hj; subst hj; simp [Addr.add]
  | 2, hj => simp at hj; subst hj; simp [Addr.add]
theorem own_next {B : Nat} {w w' : World} {v : Value} {ts : List Tri3} (h : OwnT B w v ts) (hb : w.grownBy w' none) : OwnT B w' v ts := by
  refine World.ownsRow.kept h hb ?_
  cases v.ownBlock
  · exact .inl rfl
  · exact .inr (by simp)
theorem own_base {B B' : Nat} {w : World} {v : Value} {ts : List Tri3} (h : OwnT B w v ts) (hb : B' ≤ B) : OwnT B' w v ts := by
  refine ⟨h.1, h.2.imp id ?_⟩
  rintro ⟨g, c, cur, h1, h2, h3⟩
  exact ⟨g, c, cur, h1, by omega, h3⟩
end Go.Proofs.YtkcbgppplgkkbaaGreat
