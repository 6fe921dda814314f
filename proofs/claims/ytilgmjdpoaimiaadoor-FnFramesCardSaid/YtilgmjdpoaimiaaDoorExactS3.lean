/- Slices of triples that a call owns read as such; the exact laws' own comparison of two. -/
import Derived.Test.YtilgmjdpoaimiaaDoorExactS2
import Derived.Deep.RegionHeld3
namespace Go.Proofs.YtilgmjdpoaimiaaDoor
open Go.RowKit Go.WideShapes
theorem IsTris.len {w : World} {a : Option Addr} {len cap : Nat} {ts : List Tri3} (h : IsTris w a len cap ts) : ts.length = len := by
  rcases h with ⟨_, rfl, _, rfl⟩ | ⟨x, _, _, _, h, _⟩
  · rfl
  · exact h
theorem IsTris.grown {w w' : World} {a : Option Addr} {len cap : Nat} {ts : List Tri3} (h : IsTris w a len cap ts) (hg : w.grownBy w' none) : IsTris w' a len cap ts := by
  rcases h with h | ⟨x, rfl, h1, h2, h3, h4⟩
  · exact .inl h
  · refine .inr ⟨x, rfl, h1, h2, h3, fun i t hi => ?_⟩
    obtain ⟨c0, c1, c2, w0, w1, w2⟩ := h4 i t hi
    exact ⟨hg.cell c0 (by simp), hg.cell c1 (by simp), hg.cell c2 (by simp), w0, w1, w2⟩
theorem IsTris.next {w w' : World} {a : Option Addr} {len cap : Nat} {ts : List Tri3} (h : IsTris w a len cap ts) (hb : Below w.heap.size w w') : IsTris w' a len cap ts := h.grown (grown_of_below hb)
theorem flat_at (ts : List Tri3) : ∀ (i : Nat) (t : Tri3), ts[i]? = some t → (flat ts)[i * 3]? = some (.string t.1) ∧ (flat ts)[i * 3 + 1]? = some (.string t.2.1) ∧ (flat ts)[i * 3 + 2]? = some (.string t.2.2) := by
  induction ts with
  | nil => intro i t h; simp at h
  | cons u r ih =>
    intro i t h
    have e : flat (u :: r) = .string u.1 :: .string u.2.1 :: .string u.2.2 :: flat r := by simp [flat]
    rw [e]
    cases i with
    | zero => simp at h; subst h; exact ⟨rfl, rfl, rfl⟩
    | succ n =>
      have := ih n t (by simpa using h)
      rw [show (n + 1) * 3 = n * 3 + 3 from by omega]
      exact this
theorem IsTris.small {w : World} {a : Option Addr} {len cap : Nat} {ts : List Tri3} (h : IsTris w a len cap ts) : ∀ t ∈ ts, t.1.size ≤ maxLen ∧ t.2.1.size ≤ maxLen ∧ t.2.2.size ≤ maxLen := by
  intro t ht
  rcases h with ⟨_, _, _, rfl⟩ | ⟨x, rfl, h1, h2, h3, h4⟩
  · simp at ht
  · obtain ⟨i, hi⟩ := List.mem_iff_getElem?.1 ht
    obtain ⟨_, _, _, w0, w1, w2⟩ := h4 i t hi
    exact ⟨w0, w1, w2⟩
end Go.Proofs.YtilgmjdpoaimiaaDoor
