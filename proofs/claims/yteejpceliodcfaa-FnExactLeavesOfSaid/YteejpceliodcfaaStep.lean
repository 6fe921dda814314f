/- A slice of steps of a proof that came in: what its cells hold. -/
import Derived.Test.YteejpceliodcfaaExactS3
import Derived.Test.YteejpceliodcfaaBox
namespace Go.Proofs.Yteejpceliodcfaa
open Go.ChangeShapes Go.WideShapes Go.ChangeAt Go.RowKit
/-- A step: its triple, its rule, what it uses. -/
abbrev StepV := Tri3 × Int × List Int
/-- The slice is nil, or its first cells hold these numbers. -/
def IsInts (w : World) (a : Option Addr) (len cap : Nat) (zs : List Int) : Prop :=
  (a = none ∧ len = 0 ∧ cap = 0 ∧ zs = []) ∨
  ∃ x, a = some x ∧ len ≤ cap ∧ cap ≤ maxLen ∧ zs.length = len ∧ ∀ (i : Nat) (z : Int), zs[i]? = some z → w.cell? (x.add i) = some (.int .i64 z)
theorem open_int64s {H : Type} {enc : TypeId × Value → H} {P : Program} {w : World} {base : Nat} {spare : Nat → Bool} {held : Bool} {t e : TypeId} {fuel : Nat} {c : Value} {x : DataW H × List MemPlace}
    (ht : P.underlying t = some (.slice e)) (he : P.underlying e = some (.int .i64)) (hC : P.cellsOf e = 1)
    (h : DataW.trod enc P w base spare held fuel t [c] = some x) : ∃ a len cap zs, c = .slice a len cap ∧ IsInts w a len cap zs := by
  rcases open_ints ht he hC h with ⟨hcs, _⟩ | ⟨y, len, cap, zs, hcs, _, hl, hm, hz, _, hcell, _⟩
  · obtain rfl : c = .slice none 0 0 := by simpa using hcs
    exact ⟨_, _, _, [], rfl, .inl ⟨rfl, rfl, rfl, rfl⟩⟩
  · obtain rfl : c = .slice (some y) len cap := by simpa using hcs
    have hlz : len ≤ zs.length := by rw [hz]; split <;> omega
    refine ⟨_, _, _, zs.take len, rfl, .inr ⟨y, rfl, hl, hm, by rw [List.length_take]; omega, fun i z hi => ?_⟩⟩
    have hil : i < len := by have := (List.getElem?_eq_some_iff.1 hi).1; rw [List.length_take] at this; omega
    rw [List.getElem?_take_of_lt hil] at hi
    have := hcell i (by omega)
    rw [List.getD_eq_getElem?_getD, hi] at this
    exact this
theorem IsInts.len {w : World} {a : Option Addr} {len cap : Nat} {zs : List Int} (h : IsInts w a len cap zs) : zs.length = len := by
  rcases h with ⟨_, rfl, _, rfl⟩ | ⟨x, _, _, _, h, _⟩
  · rfl
  · exact h
theorem IsInts.next {w w' : World} {a : Option Addr} {len cap : Nat} {zs : List Int} (h : IsInts w a len cap zs) (hb : Below w.heap.size w w') : IsInts w' a len cap zs := by
  rcases h with h | ⟨x, rfl, h1, h2, h3, h4⟩
  · exact .inl h
  · exact .inr ⟨x, rfl, h1, h2, h3, fun i z hi => (grown_of_below hb).cell (h4 i z hi) (by simp)⟩
theorem IsInts.cells {w : World} {a : Option Addr} {len cap : Nat} {zs : List Int} (h : IsInts w a len cap zs) (h0 : 0 < len) : ∃ b off, a = some ⟨b, off, none⟩ ∧ b < w.heap.size ∧ len ≤ cap ∧ cap ≤ maxLen ∧ zs.length = len ∧
    ∀ (i : Nat) (z : Int), zs[i]? = some z → w.cell? ⟨b, off + i, none⟩ = some (.int .i64 z) := by
  rcases h with ⟨_, rfl, _⟩ | ⟨x, rfl, h1, h2, h3, h4⟩
  · omega
  · obtain ⟨b, off, spot⟩ := x
    have ht : zs[0]? = some zs[0] := List.getElem?_eq_getElem (by omega)
    have hc := h4 0 _ ht
    obtain rfl : spot = none := by simpa [Addr.add] using World.cell?_spot hc
    exact ⟨b, off, rfl, by have := World.block_lt_of_cell? _ _ hc; simpa [Addr.add] using this, h1, h2, h3, fun i z hi => by have := h4 i z hi; rwa [add_plain] at this⟩
theorem open_int_one {H : Type} {enc : TypeId × Value → H} {P : Program} {w : World} {base : Nat} {spare : Nat → Bool} {held : Bool} {t : TypeId} {fuel : Nat} {v : Value} {x : DataW H × List MemPlace}
    (ht : P.underlying t = some (.int .i64)) (h : DataW.trod enc P w base spare held fuel t [v] = some x) : ∃ r, v = .int .i64 r := by
  obtain ⟨r, e, _⟩ := DataW.trod_int ht h
  simp only [List.cons.injEq, and_true] at e
  exact ⟨r, e⟩
def StepAt (w : World) (x : Addr) (i : Nat) (t : StepV) : Prop :=
  w.cell? (x.add (5 * i)) = some (.string t.1.1) ∧ w.cell? (x.add (5 * i + 1)) = some (.string t.1.2.1) ∧ w.cell? (x.add (5 * i + 2)) = some (.string t.1.2.2) ∧ w.cell? (x.add (5 * i + 3)) = some (.int .i64 t.2.1) ∧
  (∃ a n c, w.cell? (x.add (5 * i + 4)) = some (.slice a n c) ∧ IsInts w a n c t.2.2) ∧ t.1.1.size ≤ maxLen ∧ t.1.2.1.size ≤ maxLen ∧ t.1.2.2.size ≤ maxLen
/-- The slice is nil, or its cells hold these steps. -/
def IsSteps (w : World) (a : Option Addr) (len cap : Nat) (ts : List StepV) : Prop :=
  (a = none ∧ len = 0 ∧ cap = 0 ∧ ts = []) ∨
  ∃ x, a = some x ∧ len ≤ cap ∧ cap ≤ maxLen ∧ ts.length = len ∧ ∀ (i : Nat) (t : StepV), ts[i]? = some t → StepAt w x i t
theorem open_steps {H : Type} {enc : TypeId × Value → H} {P : Program} {w : World} {base : Nat} {spare : Nat → Bool} {held : Bool} {t e tT tI tS : TypeId} {g0 g1 g2 f0 f1 f2 : Field} {fuel : Nat} {a : Option Addr} {len cap : Nat} {x : DataW H × List MemPlace}
    (ht : P.underlying t = some (.slice e)) (he : P.underlying e = some (.struct #[g0, g1, g2])) (hC : P.cellsOf e = 5)
    (hg0 : g0.type = tT ∧ g0.offset = 0 ∧ P.cellsOf tT = 3) (hg1 : P.underlying g1.type = some (.int .i64) ∧ g1.offset = 3 ∧ P.cellsOf g1.type = 1) (hg2 : g2.type = tS ∧ g2.offset = 4 ∧ P.cellsOf tS = 1)
    (hT : P.underlying tT = some (.struct #[f0, f1, f2])) (hS : P.underlying tS = some (.slice tI)) (hI : P.underlying tI = some (.int .i64)) (cI : P.cellsOf tI = 1)
    (h0 : P.underlying f0.type = some .string ∧ f0.offset = 0 ∧ P.cellsOf f0.type = 1) (h1 : P.underlying f1.type = some .string ∧ f1.offset = 1 ∧ P.cellsOf f1.type = 1) (h2 : P.underlying f2.type = some .string ∧ f2.offset = 2 ∧ P.cellsOf f2.type = 1)
    (h : DataW.trod enc P w base spare held fuel t [.slice a len cap] = some x) : ∃ ts, IsSteps w a len cap ts := by
  rcases Deep.open_slice ht h with ⟨hcs, _⟩ | ⟨x, len', cap', m, n, D, Pl, hcs, _, hl, hm, hmm, _, hi⟩
  · simp only [List.cons.injEq, Value.slice.injEq, and_true] at hcs
    exact ⟨[], .inl ⟨hcs.1, hcs.2.1, hcs.2.2, rfl⟩⟩
  · simp only [List.cons.injEq, Value.slice.injEq, and_true] at hcs
    obtain ⟨rfl, rfl, rfl⟩ := hcs
    have hlm : len ≤ m := by rw [hmm]; split <;> omega
    obtain ⟨ts, hts, hq⟩ := list_of (Q := StepAt w x) len fun i hil => by
      obtain ⟨cs, hc, htr⟩ := hi i (by omega)
      rw [hC] at hc
      obtain ⟨_, hcl, hat⟩ := World.cells?_some hc
      obtain ⟨y0, y1, y2, n', _, _, k0, k1, k2⟩ := Deep.trod_struct3 he htr
      rw [hg0.1, hg0.2.1, hg0.2.2] at k0
      rw [hg1.2.1, hg1.2.2] at k1
      rw [hg2.1, hg2.2.1, hg2.2.2] at k2
      obtain ⟨z0, z1, z2, n2, _, _, j0, j1, j2⟩ := Deep.trod_struct3 hT k0
      rw [h0.2.1, h0.2.2] at j0
      rw [h1.2.1, h1.2.2] at j1
      rw [h2.2.1, h2.2.2] at j2
      match cs, hcl with
      | [v0, v1, v2, v3, v4], _ =>
        simp only [List.drop_succ_cons, List.drop_zero, List.take_succ_cons, List.take_zero] at j0 j1 j2 k1 k2
        obtain ⟨s, e0, _, w0⟩ := DataW.trod_string h0.1 j0
        obtain ⟨p, e1, _, w1⟩ := DataW.trod_string h1.1 j1
        obtain ⟨o, e2, _, w2⟩ := DataW.trod_string h2.1 j2
        obtain ⟨r, e3⟩ : ∃ r, v3 = .int .i64 r := open_int_one hg1.1 k1
        obtain ⟨a', n3, c', zs, e4, hz⟩ := open_int64s hS hI cI k2
        simp only [List.cons.injEq, and_true] at e0 e1 e2
        subst e0 e1 e2 e3 e4
        have ha : ∀ j, j < 5 → w.cell? (x.add (5 * i + j)) = [Value.string s, .string p, .string o, .int .i64 r, .slice a' n3 c'][j]? := by
          intro j hj
          rw [← hat j hj, Deep.add_add, Nat.mul_comm]
        exact ⟨((s, p, o), r, zs), (ha 0 (by omega)).trans rfl, (ha 1 (by omega)).trans rfl, (ha 2 (by omega)).trans rfl, (ha 3 (by omega)).trans rfl, ⟨a', n3, c', (ha 4 (by omega)).trans rfl, hz⟩, w0, w1, w2⟩
    exact ⟨ts, .inr ⟨x, rfl, hl, hm, hts, hq⟩⟩
theorem IsSteps.len {w : World} {a : Option Addr} {len cap : Nat} {ts : List StepV} (h : IsSteps w a len cap ts) : ts.length = len := by
  rcases h with ⟨_, rfl, _, rfl⟩ | ⟨x, _, _, _, h, _⟩
  · rfl
  · exact h
theorem IsSteps.next {w w' : World} {a : Option Addr} {len cap : Nat} {ts : List StepV} (h : IsSteps w a len cap ts) (hb : Below w.heap.size w w') : IsSteps w' a len cap ts := by
  have hg := grown_of_below hb
  rcases h with h | ⟨x, rfl, h1, h2, h3, h4⟩
  · exact .inl h
  · refine .inr ⟨x, rfl, h1, h2, h3, fun i t hi => ?_⟩
    obtain ⟨c0, c1, c2, c3, ⟨a', n, c, c4, hz⟩, m⟩ := h4 i t hi
    exact ⟨hg.cell c0 (by simp), hg.cell c1 (by simp), hg.cell c2 (by simp), hg.cell c3 (by simp), ⟨a', n, c, hg.cell c4 (by simp), hz.next hb⟩, m⟩
/-- The place of a slice that has an element, and its cells. -/
theorem IsSteps.cells {w : World} {a : Option Addr} {len cap : Nat} {ts : List StepV} (h : IsSteps w a len cap ts) (h0 : 0 < len) : ∃ b off, a = some ⟨b, off, none⟩ ∧ b < w.heap.size ∧ len ≤ cap ∧ cap ≤ maxLen ∧ ts.length = len ∧
    ∀ (i : Nat) (t : StepV), ts[i]? = some t → w.cell? ⟨b, off + i * 5, none⟩ = some (.string t.1.1) ∧ w.cell? ⟨b, off + i * 5 + 1, none⟩ = some (.string t.1.2.1) ∧ w.cell? ⟨b, off + i * 5 + 2, none⟩ = some (.string t.1.2.2) ∧ w.cell? ⟨b, off + i * 5 + 3, none⟩ = some (.int .i64 t.2.1) ∧
      (∃ a n c, w.cell? ⟨b, off + i * 5 + 4, none⟩ = some (.slice a n c) ∧ IsInts w a n c t.2.2) ∧ t.1.1.size ≤ maxLen ∧ t.1.2.1.size ≤ maxLen ∧ t.1.2.2.size ≤ maxLen := by
  rcases h with ⟨_, rfl, _⟩ | ⟨x, rfl, h1, h2, h3, h4⟩
  · omega
  · obtain ⟨b, off, spot⟩ := x
    have ht : ts[0]? = some ts[0] := List.getElem?_eq_getElem (by omega)
    have hc := (h4 0 _ ht).1
    obtain rfl : spot = none := by simpa [Addr.add] using World.cell?_spot hc
    refine ⟨b, off, rfl, by have := World.block_lt_of_cell? _ _ hc; simpa [Addr.add] using this, h1, h2, h3, fun i t hi => ?_⟩
    obtain ⟨c0, c1, c2, c3, ⟨a', n, c, c4, hz⟩, m⟩ := h4 i t hi
    have e : ∀ j, (⟨b, off, none⟩ : Addr).add (5 * i + j) = ⟨b, off + i * 5 + j, none⟩ := fun j => by rw [add_plain, show off + (5 * i + j) = off + i * 5 + j from by omega]
    have e0 : (⟨b, off, none⟩ : Addr).add (5 * i) = ⟨b, off + i * 5, none⟩ := e 0
    rw [e0] at c0
    rw [e] at c1 c2 c3 c4
    exact ⟨c0, c1, c2, c3, ⟨a', n, c, c4, hz⟩, m⟩
theorem IsSteps.small {w : World} {a : Option Addr} {len cap : Nat} {ts : List StepV} (h : IsSteps w a len cap ts) : ∀ t ∈ ts, t.1.1.size ≤ maxLen ∧ t.1.2.1.size ≤ maxLen ∧ t.1.2.2.size ≤ maxLen := by
  intro t ht
  rcases h with ⟨_, _, _, rfl⟩ | ⟨x, rfl, h1, h2, h3, h4⟩
  · simp at ht
  · obtain ⟨i, hi⟩ := List.mem_iff_getElem?.1 ht
    exact (h4 i t hi).2.2.2.2.2
end Go.Proofs.Yteejpceliodcfaa
