/- The contract of the exact laws' own copy of a slice of triples. -/
import Derived.Test.YtilgmjdpoaimiaaDoorExactS
namespace Go.Proofs.YtilgmjdpoaimiaaDoor
open Go.RowKit Go.WideShapes
def flat (ts : List Tri3) : List Value := ts.flatMap fun t => [.string t.1, .string t.2.1, .string t.2.2]
theorem flat_snoc (ts : List Tri3) (t : Tri3) : flat (ts ++ [t]) = flat ts ++ [.string t.1, .string t.2.1, .string t.2.2] := by simp [flat]
theorem flat_len (ts : List Tri3) : (flat ts).length = ts.length * 3 := by
  induction ts with
  | nil => rfl
  | cons t r ih => simp only [flat, List.flatMap_cons, List.length_append, List.length_cons, List.length_nil] at *; omega
theorem set3 {xs l : List Value} {k : Nat} (a b c : Value) (h : xs.take (k * 3) = l) (hl : k * 3 + 2 < xs.length) :
    (((xs.set (k * 3) a).set (k * 3 + 1) b).set (k * 3 + 2) c).take ((k + 1) * 3) = l ++ [a, b, c] := by
  subst h
  apply List.ext_getElem?
  intro i
  have hlen : (xs.take (k * 3)).length = k * 3 := by rw [List.length_take]; omega
  rw [List.getElem?_take]
  rcases Nat.lt_or_ge i (k * 3) with g | g
  · rw [if_pos (by omega), List.getElem?_append_left (by omega), List.getElem?_take, if_pos g, List.getElem?_set_ne (by omega), List.getElem?_set_ne (by omega), List.getElem?_set_ne (by omega)]
  · rw [List.getElem?_append_right (by omega), hlen]
    obtain rfl | rfl | rfl | g3 : i = k * 3 ∨ i = k * 3 + 1 ∨ i = k * 3 + 2 ∨ k * 3 + 3 ≤ i := by omega
    · rw [if_pos (by omega), List.getElem?_set_ne (by omega), List.getElem?_set_ne (by omega), List.getElem?_set_self (by omega)]; simp
    · rw [if_pos (by omega), List.getElem?_set_ne (by omega), List.getElem?_set_self (by simp; omega)]
      rw [show k * 3 + 1 - k * 3 = 1 from by omega]; rfl
    · rw [if_pos (by omega), List.getElem?_set_self (by simp; omega)]
      rw [show k * 3 + 2 - k * 3 = 2 from by omega]; rfl
    · rw [if_neg (by omega), List.getElem?_eq_none (by simp; omega)]
end Go.Proofs.YtilgmjdpoaimiaaDoor
