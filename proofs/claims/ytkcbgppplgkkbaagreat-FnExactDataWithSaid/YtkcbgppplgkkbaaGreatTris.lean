/- A slice of triples that came in: what its cells hold. -/
import Derived.Test.YtkcbgppplgkkbaaGreatFrame
import Derived.Deep.Slices
namespace Go.Proofs.YtkcbgppplgkkbaaGreat
open Go.ChangeShapes Go.WideShapes Go.ChangeAt Go.RowKit
abbrev Tri3 := ByteArray × ByteArray × ByteArray
theorem list_of {α : Type} {Q : Nat → α → Prop} : ∀ n : Nat, (∀ i, i < n → ∃ t, Q i t) → ∃ l : List α, l.length = n ∧ ∀ (i : Nat) (t : α), l[i]? = some t → Q i t
  | 0, _ => ⟨[], rfl, by simp⟩
  | n + 1, h => by
    obtain ⟨l, hl, hq⟩ := list_of n fun i hi => h i (by omega)
    obtain ⟨t, ht⟩ := h n (by omega)
    refine ⟨l ++ [t], by simp [hl], fun i u hu => ?_⟩
    rcases Nat.lt_or_ge i l.length with g | g
    · rw [List.getElem?_append_left g] at hu; exact hq i u hu
    · rw [List.getElem?_append_right g] at hu
      have hi : i - l.length = 0 := by
        rcases Nat.eq_zero_or_pos (i - l.length) with e | e
        · exact e
        · rw [List.getElem?_eq_none (by simp only [List.length_singleton]; omega)] at hu; simp at hu
      rw [hi] at hu
      simp only [List.getElem?_cons_zero, Option.some.injEq] at hu
      rw [← hu, show i = n from by omega]
      exact ht
def TriAt (w : World) (x : Addr) (i : Nat) (t : Tri3) : Prop := w.cell? (x.add (3 * i)) = some (.string t.1) ∧ w.cell? (x.add (3 * i + 1)) = some (.string t.2.1) ∧ w.cell? (x.add (3 * i + 2)) = some (.string t.2.2) ∧
  t.1.size ≤ maxLen ∧ t.2.1.size ≤ maxLen ∧ t.2.2.size ≤ maxLen
/-- The slice is nil, or its cells hold the triples ts, three texts each. -/
def IsTris (w : World) (a : Option Addr) (len cap : Nat) (ts : List Tri3) : Prop :=
  (a = none ∧ len = 0 ∧ cap = 0 ∧ ts = []) ∨
  ∃ x, a = some x ∧ len ≤ cap ∧ cap ≤ maxLen ∧ ts.length = len ∧ ∀ (i : Nat) (t : Tri3), ts[i]? = some t → TriAt w x i t
theorem open_tris {H : Type} {enc : TypeId × Value → H} {P : Program} {w : World} {base : Nat} {spare : Nat → Bool} {held : Bool} {t e : TypeId} {f0 f1 f2 : Field} {fuel : Nat} {a : Option Addr} {len cap : Nat} {x : DataW H × List MemPlace}
    (ht : P.underlying t = some (.slice e)) (he : P.underlying e = some (.struct #[f0, f1, f2])) (hC : P.cellsOf e = 3)
    (h0 : P.underlying f0.type = some .string ∧ f0.offset = 0 ∧ P.cellsOf f0.type = 1) (h1 : P.underlying f1.type = some .string ∧ f1.offset = 1 ∧ P.cellsOf f1.type = 1) (h2 : P.underlying f2.type = some .string ∧ f2.offset = 2 ∧ P.cellsOf f2.type = 1)
    (h : DataW.trod enc P w base spare held fuel t [.slice a len cap] = some x) : ∃ ts, IsTris w a len cap ts := by
  rcases Deep.open_slice ht h with ⟨hcs, _⟩ | ⟨x, len', cap', m, n, D, Pl, hcs, _, hl, hm, hmm, _, hi⟩
  · simp only [List.cons.injEq, Value.slice.injEq, and_true] at hcs
    exact ⟨[], .inl ⟨hcs.1, hcs.2.1, hcs.2.2, rfl⟩⟩
  · simp only [List.cons.injEq, Value.slice.injEq, and_true] at hcs
    obtain ⟨rfl, rfl, rfl⟩ := hcs
    have hlm : len ≤ m := by rw [hmm]; split <;> omega
    obtain ⟨ts, hts, hq⟩ := list_of (Q := TriAt w x) len fun i hil => by
      obtain ⟨cs', hc, htr⟩ := hi i (by omega)
      rw [hC] at hc
      obtain ⟨_, hcl, hat⟩ := World.cells?_some hc
      obtain ⟨xs, n', _, _, _, hxl, hf⟩ := DataW.trod_struct he htr
      have hxl3 : xs.length = 3 := hxl
      have g : ∀ (j : Nat) (f : Field), #[f0, f1, f2][j]? = some f → P.underlying f.type = some .string ∧ f.offset = j ∧ P.cellsOf f.type = 1 → j < 3 → ∃ s : ByteArray, cs'[j]? = some (.string s) ∧ s.size ≤ maxLen := by
        intro j f hj hfo hj3
        have hx := hf j f hj
        rw [hfo.2.1, hfo.2.2, List.getElem?_eq_getElem (by omega)] at hx
        obtain ⟨s, hs, _, hsz⟩ := DataW.trod_string hfo.1 hx
        refine ⟨s, ?_, hsz⟩
        rw [List.drop_eq_getElem_cons (by omega)] at hs
        simp only [List.take_succ_cons, List.take_zero, List.cons.injEq, and_true] at hs
        rw [List.getElem?_eq_getElem (by omega), hs]
      obtain ⟨s, hs, ws⟩ := g 0 f0 rfl h0 (by omega)
      obtain ⟨p, hp, wp⟩ := g 1 f1 rfl h1 (by omega)
      obtain ⟨o, ho, wo⟩ := g 2 f2 rfl h2 (by omega)
      have ha : ∀ j, j < 3 → w.cell? (x.add (3 * i + j)) = cs'[j]? := by
        intro j hj
        rw [← hat j hj, Deep.add_add, Nat.mul_comm]
      exact ⟨(s, p, o), (ha 0 (by omega)).trans hs, (ha 1 (by omega)).trans hp, (ha 2 (by omega)).trans ho, ws, wp, wo⟩
    exact ⟨ts, .inr ⟨x, rfl, hl, hm, hts, hq⟩⟩
end Go.Proofs.YtkcbgppplgkkbaaGreat
