/- The contracts of the exact laws' own helpers on one triple. -/
import Derived.Test.YtamnlifdfhmbnaaG01
import Derived.Test.YtamnlifdfhmbnaaG00
namespace Go.Proofs.Ytamnlifdfhmbnaa
open Go.RowKit
def szT (s p o : Nat) (left : Int) : Int := if left - s < 0 then -1 else if left - s - p < 0 then -1 else if left - s - p - o < 0 then -1 else left - s - p - o
theorem szT_yes {s p o : Nat} {left : Int} (h : (s : Int) + p + o ≤ left) : szT s p o left = left - s - p - o := by
  unfold szT; rw [if_neg (by omega), if_neg (by omega), if_neg (by omega)]
theorem szT_no {s p o : Nat} {left : Int} (h : ¬ (s : Int) + p + o ≤ left) : szT s p o left = -1 := by
  unfold szT; split; · rfl
  split; · rfl
  rw [if_pos (by omega)]
end Go.Proofs.Ytamnlifdfhmbnaa
/- The contracts of the exact laws' own helpers on slices of triples. -/
namespace Go.Proofs.Ytamnlifdfhmbnaa
open Go.RowKit Go.WideShapes
/-- The place of a slice that has an element, and its cells. -/
theorem IsTris.cells {w : World} {a : Option Addr} {len cap : Nat} {ts : List Tri3} (h : IsTris w a len cap ts) (h0 : 0 < len) : ∃ b off, a = some ⟨b, off, none⟩ ∧ b < w.heap.size ∧ len ≤ cap ∧ cap ≤ maxLen ∧ ts.length = len ∧
    ∀ (i : Nat) (t : Tri3), ts[i]? = some t → w.cell? ⟨b, off + i * 3, none⟩ = some (.string t.1) ∧ w.cell? ⟨b, off + i * 3 + 1, none⟩ = some (.string t.2.1) ∧ w.cell? ⟨b, off + i * 3 + 2, none⟩ = some (.string t.2.2) ∧ t.1.size ≤ maxLen ∧ t.2.1.size ≤ maxLen ∧ t.2.2.size ≤ maxLen := by
  rcases h with ⟨_, rfl, _⟩ | ⟨x, rfl, h1, h2, h3, h4⟩
  · omega
  · obtain ⟨b, off, spot⟩ := x
    have ht : ts[0]? = some ts[0] := List.getElem?_eq_getElem (by omega)
    have hc := (h4 0 _ ht).1
    obtain rfl : spot = none := by simpa [Addr.add] using World.cell?_spot hc
    refine ⟨b, off, rfl, ?_, h1, h2, h3, fun i t hi => ?_⟩
    · have := World.block_lt_of_cell? _ _ hc
      simpa [Addr.add] using this
    · obtain ⟨c0, c1, c2, w0, w1, w2⟩ := h4 i t hi
      rw [add_plain] at c0 c1 c2
      rw [Nat.mul_comm] at c0 c1 c2
      exact ⟨c0, by rw [Nat.add_assoc]; exact c1, by rw [Nat.add_assoc]; exact c2, w0, w1, w2⟩
/-- What a size that is not below 0 says of the triples. -/
def Small (len : Nat) (ts : List Tri3) : Prop := len ≤ 1048576 ∧ ∀ t ∈ ts, t.1.size + t.2.1.size + t.2.2.size ≤ 1048576
def SzPost (left : Int) (len : Nat) (ts : List Tri3) (w : World) (e : Ending) (w' : World) : Prop :=
  ∃ n : Int, e = .returned (.int .i64 n) ∧ (n = -1 ∨ (0 ≤ n ∧ n ≤ left ∧ Small len ts)) ∧ Below w.heap.size w w'
end Go.Proofs.Ytamnlifdfhmbnaa
/- The contract of the exact laws' own copy of a slice of triples. -/
namespace Go.Proofs.Ytamnlifdfhmbnaa
open Go.RowKit Go.WideShapes
def flat (ts : List Tri3) : List Value := ts.flatMap fun t => [.string t.1, .string t.2.1, .string t.2.2]
theorem flat_snoc (ts : List Tri3) (t : Tri3) : flat (ts ++ [t]) = flat ts ++ [.string t.1, .string t.2.1, .string t.2.2] := by simp [flat]
theorem flat_len (ts : List Tri3) : (flat ts).length = ts.length * 3 := by
  induction ts with
  | nil => rfl
  | cons t r ih => simp only [flat, List.flatMap_cons, List.length_append, List.length_cons, List.length_nil] at *; omega
theorem set3 {xs l : List Value} {k : Nat} (a b c : Value) (h : xs.take (k * 3) = l) (hl : k * 3 + 2 < xs.length) :
    (((xs.set (k * 3) a).set (k * 3 + 1) b).set (k * 3 + 2) c).take ((k + 1) * 3) = l ++ [a, b, c] := by
  subst h
  apply List.ext_getElem?
  intro i
  have hlen : (xs.take (k * 3)).length = k * 3 := by rw [List.length_take]; omega
  rw [List.getElem?_take]
  rcases Nat.lt_or_ge i (k * 3) with g | g
  · rw [if_pos (by omega), List.getElem?_append_left (by omega), List.getElem?_take, if_pos g, List.getElem?_set_ne (by omega), List.getElem?_set_ne (by omega), List.getElem?_set_ne (by omega)]
  · rw [List.getElem?_append_right (by omega), hlen]
    obtain rfl | rfl | rfl | g3 : i = k * 3 ∨ i = k * 3 + 1 ∨ i = k * 3 + 2 ∨ k * 3 + 3 ≤ i := by omega
    · rw [if_pos (by omega), List.getElem?_set_ne (by omega), List.getElem?_set_ne (by omega), List.getElem?_set_self (by omega)]; simp
    · rw [if_pos (by omega), List.getElem?_set_ne (by omega), List.getElem?_set_self (by simp; omega)]
      rw [show k * 3 + 1 - k * 3 = 1 from by omega]; rfl
    · rw [if_pos (by omega), List.getElem?_set_self (by simp; omega)]
      rw [show k * 3 + 2 - k * 3 = 2 from by omega]; rfl
    · rw [if_neg (by omega), List.getElem?_eq_none (by simp; omega)]
end Go.Proofs.Ytamnlifdfhmbnaa
