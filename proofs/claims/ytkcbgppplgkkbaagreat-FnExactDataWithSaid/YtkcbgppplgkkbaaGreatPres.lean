/- A slice of prefixes that came in: what its cells hold. -/
import Derived.Test.YtkcbgppplgkkbaaGreatTris
namespace Go.Proofs.YtkcbgppplgkkbaaGreat
open Go.ChangeShapes Go.WideShapes Go.ChangeAt Go.RowKit
abbrev Pre2 := ByteArray × ByteArray
def PreAt (w : World) (x : Addr) (i : Nat) (t : Pre2) : Prop := w.cell? (x.add (2 * i)) = some (.string t.1) ∧ w.cell? (x.add (2 * i + 1)) = some (.string t.2) ∧ t.1.size ≤ maxLen ∧ t.2.size ≤ maxLen
/-- The slice is nil, or its cells hold the prefixes ts, two texts each. -/
def IsPres (w : World) (a : Option Addr) (len cap : Nat) (ts : List Pre2) : Prop :=
  (a = none ∧ len = 0 ∧ cap = 0 ∧ ts = []) ∨
  ∃ x, a = some x ∧ len ≤ cap ∧ cap ≤ maxLen ∧ ts.length = len ∧ ∀ (i : Nat) (t : Pre2), ts[i]? = some t → PreAt w x i t
theorem open_pres {H : Type} {enc : TypeId × Value → H} {P : Program} {w : World} {base : Nat} {spare : Nat → Bool} {held : Bool} {t e : TypeId} {f0 f1 : Field} {fuel : Nat} {a : Option Addr} {len cap : Nat} {x : DataW H × List MemPlace}
    (ht : P.underlying t = some (.slice e)) (he : P.underlying e = some (.struct #[f0, f1])) (hC : P.cellsOf e = 2)
    (h0 : P.underlying f0.type = some .string ∧ f0.offset = 0 ∧ P.cellsOf f0.type = 1) (h1 : P.underlying f1.type = some .string ∧ f1.offset = 1 ∧ P.cellsOf f1.type = 1)
    (h : DataW.trod enc P w base spare held fuel t [.slice a len cap] = some x) : ∃ ts, IsPres w a len cap ts := by
  rcases Deep.open_slice ht h with ⟨hcs, _⟩ | ⟨x, len', cap', m, n, D, Pl, hcs, _, hl, hm, hmm, _, hi⟩
  · simp only [List.cons.injEq, Value.slice.injEq, and_true] at hcs
    exact ⟨[], .inl ⟨hcs.1, hcs.2.1, hcs.2.2, rfl⟩⟩
  · simp only [List.cons.injEq, Value.slice.injEq, and_true] at hcs
    obtain ⟨rfl, rfl, rfl⟩ := hcs
    have hlm : len ≤ m := by rw [hmm]; split <;> omega
    obtain ⟨ts, hts, hq⟩ := list_of (Q := PreAt w x) len fun i hil => by
      obtain ⟨cs', hc, htr⟩ := hi i (by omega)
      rw [hC] at hc
      obtain ⟨_, hcl, hat⟩ := World.cells?_some hc
      obtain ⟨xs, n', _, _, _, hxl, hf⟩ := DataW.trod_struct he htr
      have hxl2 : xs.length = 2 := hxl
      have g : ∀ (j : Nat) (f : Field), #[f0, f1][j]? = some f → P.underlying f.type = some .string ∧ f.offset = j ∧ P.cellsOf f.type = 1 → j < 2 → ∃ s : ByteArray, cs'[j]? = some (.string s) ∧ s.size ≤ maxLen := by
        intro j f hj hfo hj2
        have hx := hf j f hj
        rw [hfo.2.1, hfo.2.2, List.getElem?_eq_getElem (by omega)] at hx
        obtain ⟨s, hs, _, hsz⟩ := DataW.trod_string hfo.1 hx
        refine ⟨s, ?_, hsz⟩
        rw [List.drop_eq_getElem_cons (by omega)] at hs
        simp only [List.take_succ_cons, List.take_zero, List.cons.injEq, and_true] at hs
        rw [List.getElem?_eq_getElem (by omega), hs]
      obtain ⟨s, hs, ws⟩ := g 0 f0 rfl h0 (by omega)
      obtain ⟨p, hp, wp⟩ := g 1 f1 rfl h1 (by omega)
      have ha : ∀ j, j < 2 → w.cell? (x.add (2 * i + j)) = cs'[j]? := by
        intro j hj
        rw [← hat j hj, Deep.add_add, Nat.mul_comm]
      exact ⟨(s, p), (ha 0 (by omega)).trans hs, (ha 1 (by omega)).trans hp, ws, wp⟩
    exact ⟨ts, .inr ⟨x, rfl, hl, hm, hts, hq⟩⟩
/-- The place of a slice that has an element, and its cells. -/
theorem IsPres.cells {w : World} {a : Option Addr} {len cap : Nat} {ts : List Pre2} (h : IsPres w a len cap ts) (h0 : 0 < len) : ∃ b off, a = some ⟨b, off, none⟩ ∧ b < w.heap.size ∧ len ≤ cap ∧ cap ≤ maxLen ∧ ts.length = len ∧
    ∀ (i : Nat) (t : Pre2), ts[i]? = some t → w.cell? ⟨b, off + i * 2, none⟩ = some (.string t.1) ∧ w.cell? ⟨b, off + i * 2 + 1, none⟩ = some (.string t.2) ∧ t.1.size ≤ maxLen ∧ t.2.size ≤ maxLen := by
  rcases h with ⟨_, rfl, _⟩ | ⟨x, rfl, h1, h2, h3, h4⟩
  · omega
  · obtain ⟨b, off, spot⟩ := x
    have ht : ts[0]? = some ts[0] := List.getElem?_eq_getElem (by omega)
    have hc := (h4 0 _ ht).1
    obtain rfl : spot = none := by simpa [Addr.add] using World.cell?_spot hc
    refine ⟨b, off, rfl, ?_, h1, h2, h3, fun i t hi => ?_⟩
    · have := World.block_lt_of_cell? _ _ hc
      simpa [Addr.add] using this
    · obtain ⟨c0, c1, w0, w1⟩ := h4 i t hi
      rw [add_plain] at c0 c1
      rw [Nat.mul_comm] at c0 c1
      exact ⟨c0, by rw [Nat.add_assoc]; exact c1, w0, w1⟩
theorem IsPres.len {w : World} {a : Option Addr} {len cap : Nat} {ts : List Pre2} (h : IsPres w a len cap ts) : ts.length = len := by
  rcases h with ⟨_, rfl, _, rfl⟩ | ⟨x, _, _, _, h, _⟩
  · rfl
  · exact h
theorem IsPres.grown {w w' : World} {a : Option Addr} {len cap : Nat} {ts : List Pre2} (h : IsPres w a len cap ts) (hg : w.grownBy w' none) : IsPres w' a len cap ts := by
  rcases h with h | ⟨x, rfl, h1, h2, h3, h4⟩
  · exact .inl h
  · refine .inr ⟨x, rfl, h1, h2, h3, fun i t hi => ?_⟩
    obtain ⟨c0, c1, w0, w1⟩ := h4 i t hi
    exact ⟨hg.cell c0 (by simp), hg.cell c1 (by simp), w0, w1⟩
end Go.Proofs.YtkcbgppplgkkbaaGreat
