/- Slices of triples that a call owns read as such; the exact laws' own comparison of two. -/
import Derived.Test.YtamnlifdfhmbnaaG02
import Derived.Deep.RegionHeld3
import Derived.Test.YtamnlifdfhmbnaaG00
import Derived.Test.YtamnlifdfhmbnaaG01
namespace Go.Proofs.Ytamnlifdfhmbnaa
open Go.RowKit Go.WideShapes
theorem IsTris.len {w : World} {a : Option Addr} {len cap : Nat} {ts : List Tri3} (h : IsTris w a len cap ts) : ts.length = len := by
  rcases h with ⟨_, rfl, _, rfl⟩ | ⟨x, _, _, _, h, _⟩
  · rfl
  · exact h
theorem IsTris.grown {w w' : World} {a : Option Addr} {len cap : Nat} {ts : List Tri3} (h : IsTris w a len cap ts) (hg : w.grownBy w' none) : IsTris w' a len cap ts := by
  rcases h with h | ⟨x, rfl, h1, h2, h3, h4⟩
  · exact .inl h
  · refine .inr ⟨x, rfl, h1, h2, h3, fun i t hi => ?_⟩
    obtain ⟨c0, c1, c2, w0, w1, w2⟩ := h4 i t hi
    exact ⟨hg.cell c0 (by simp), hg.cell c1 (by simp), hg.cell c2 (by simp), w0, w1, w2⟩
theorem IsTris.next {w w' : World} {a : Option Addr} {len cap : Nat} {ts : List Tri3} (h : IsTris w a len cap ts) (hb : Below w.heap.size w w') : IsTris w' a len cap ts := h.grown (grown_of_below hb)
theorem flat_at (ts : List Tri3) : ∀ (i : Nat) (t : Tri3), ts[i]? = some t → (flat ts)[i * 3]? = some (.string t.1) ∧ (flat ts)[i * 3 + 1]? = some (.string t.2.1) ∧ (flat ts)[i * 3 + 2]? = some (.string t.2.2) := by
  induction ts with
  | nil => intro i t h; simp at h
  | cons u r ih =>
    intro i t h
    have e : flat (u :: r) = .string u.1 :: .string u.2.1 :: .string u.2.2 :: flat r := by simp [flat]
    rw [e]
    cases i with
    | zero => simp at h; subst h; exact ⟨rfl, rfl, rfl⟩
    | succ n =>
      have := ih n t (by simpa using h)
      rw [show (n + 1) * 3 = n * 3 + 3 from by omega]
      exact this
theorem IsTris.small {w : World} {a : Option Addr} {len cap : Nat} {ts : List Tri3} (h : IsTris w a len cap ts) : ∀ t ∈ ts, t.1.size ≤ maxLen ∧ t.2.1.size ≤ maxLen ∧ t.2.2.size ≤ maxLen := by
  intro t ht
  rcases h with ⟨_, _, _, rfl⟩ | ⟨x, rfl, h1, h2, h3, h4⟩
  · simp at ht
  · obtain ⟨i, hi⟩ := List.mem_iff_getElem?.1 ht
    obtain ⟨_, _, _, w0, w1, w2⟩ := h4 i t hi
    exact ⟨w0, w1, w2⟩
end Go.Proofs.Ytamnlifdfhmbnaa
/- A slice of prefixes that came in: what its cells hold. -/
namespace Go.Proofs.Ytamnlifdfhmbnaa
open Go.ChangeShapes Go.WideShapes Go.ChangeAt Go.RowKit
abbrev Pre2 := ByteArray × ByteArray
def PreAt (w : World) (x : Addr) (i : Nat) (t : Pre2) : Prop := w.cell? (x.add (2 * i)) = some (.string t.1) ∧ w.cell? (x.add (2 * i + 1)) = some (.string t.2) ∧ t.1.size ≤ maxLen ∧ t.2.size ≤ maxLen
/-- The slice is nil, or its cells hold the prefixes ts, two texts each. -/
def IsPres (w : World) (a : Option Addr) (len cap : Nat) (ts : List Pre2) : Prop :=
  (a = none ∧ len = 0 ∧ cap = 0 ∧ ts = []) ∨
  ∃ x, a = some x ∧ len ≤ cap ∧ cap ≤ maxLen ∧ ts.length = len ∧ ∀ (i : Nat) (t : Pre2), ts[i]? = some t → PreAt w x i t
theorem open_pres {H : Type} {enc : TypeId × Value → H} {P : Program} {w : World} {base : Nat} {spare : Nat → Bool} {held : Bool} {t e : TypeId} {f0 f1 : Field} {fuel : Nat} {a : Option Addr} {len cap : Nat} {x : DataW H × List MemPlace}
    (ht : P.underlying t = some (.slice e)) (he : P.underlying e = some (.struct #[f0, f1])) (hC : P.cellsOf e = 2)
    (h0 : P.underlying f0.type = some .string ∧ f0.offset = 0 ∧ P.cellsOf f0.type = 1) (h1 : P.underlying f1.type = some .string ∧ f1.offset = 1 ∧ P.cellsOf f1.type = 1)
    (h : DataW.trod enc P w base spare held fuel t [.slice a len cap] = some x) : ∃ ts, IsPres w a len cap ts := by
  rcases Deep.open_slice ht h with ⟨hcs, _⟩ | ⟨x, len', cap', m, n, D, Pl, hcs, _, hl, hm, hmm, _, hi⟩
  · simp only [List.cons.injEq, Value.slice.injEq, and_true] at hcs
    exact ⟨[], .inl ⟨hcs.1, hcs.2.1, hcs.2.2, rfl⟩⟩
  · simp only [List.cons.injEq, Value.slice.injEq, and_true] at hcs
    obtain ⟨rfl, rfl, rfl⟩ := hcs
    have hlm : len ≤ m := by rw [hmm]; split <;> omega
    obtain ⟨ts, hts, hq⟩ := list_of (Q := PreAt w x) len fun i hil => by
      obtain ⟨cs', hc, htr⟩ := hi i (by omega)
      rw [hC] at hc
      obtain ⟨_, hcl, hat⟩ := World.cells?_some hc
      obtain ⟨xs, n', _, _, _, hxl, hf⟩ := DataW.trod_struct he htr
      have hxl2 : xs.length = 2 := hxl
      have g : ∀ (j : Nat) (f : Field), #[f0, f1][j]? = some f → P.underlying f.type = some .string ∧ f.offset = j ∧ P.cellsOf f.type = 1 → j < 2 → ∃ s : ByteArray, cs'[j]? = some (.string s) ∧ s.size ≤ maxLen := by
        intro j f hj hfo hj2
        have hx := hf j f hj
        rw [hfo.2.1, hfo.2.2, List.getElem?_eq_getElem (by omega)] at hx
        obtain ⟨s, hs, _, hsz⟩ := DataW.trod_string hfo.1 hx
        refine ⟨s, ?_, hsz⟩
        rw [List.drop_eq_getElem_cons (by omega)] at hs
        simp only [List.take_succ_cons, List.take_zero, List.cons.injEq, and_true] at hs
        rw [List.getElem?_eq_getElem (by omega), hs]
      obtain ⟨s, hs, ws⟩ := g 0 f0 rfl h0 (by omega)
      obtain ⟨p, hp, wp⟩ := g 1 f1 rfl h1 (by omega)
      have ha : ∀ j, j < 2 → w.cell? (x.add (2 * i + j)) = cs'[j]? := by
        intro j hj
        rw [← hat j hj, Deep.add_add, Nat.mul_comm]
      exact ⟨(s, p), (ha 0 (by omega)).trans hs, (ha 1 (by omega)).trans hp, ws, wp⟩
    exact ⟨ts, .inr ⟨x, rfl, hl, hm, hts, hq⟩⟩
/-- The place of a slice that has an element, and its cells. -/
theorem IsPres.cells {w : World} {a : Option Addr} {len cap : Nat} {ts : List Pre2} (h : IsPres w a len cap ts) (h0 : 0 < len) : ∃ b off, a = some ⟨b, off, none⟩ ∧ b < w.heap.size ∧ len ≤ cap ∧ cap ≤ maxLen ∧ ts.length = len ∧
    ∀ (i : Nat) (t : Pre2), ts[i]? = some t → w.cell? ⟨b, off + i * 2, none⟩ = some (.string t.1) ∧ w.cell? ⟨b, off + i * 2 + 1, none⟩ = some (.string t.2) ∧ t.1.size ≤ maxLen ∧ t.2.size ≤ maxLen := by
  rcases h with ⟨_, rfl, _⟩ | ⟨x, rfl, h1, h2, h3, h4⟩
  · omega
  · obtain ⟨b, off, spot⟩ := x
    have ht : ts[0]? = some ts[0] := List.getElem?_eq_getElem (by omega)
    have hc := (h4 0 _ ht).1
    obtain rfl : spot = none := by simpa [Addr.add] using World.cell?_spot hc
    refine ⟨b, off, rfl, ?_, h1, h2, h3, fun i t hi => ?_⟩
    · have := World.block_lt_of_cell? _ _ hc
      simpa [Addr.add] using this
    · obtain ⟨c0, c1, w0, w1⟩ := h4 i t hi
      rw [add_plain] at c0 c1
      rw [Nat.mul_comm] at c0 c1
      exact ⟨c0, by rw [Nat.add_assoc]; exact c1, w0, w1⟩
theorem IsPres.len {w : World} {a : Option Addr} {len cap : Nat} {ts : List Pre2} (h : IsPres w a len cap ts) : ts.length = len := by
  rcases h with ⟨_, rfl, _, rfl⟩ | ⟨x, _, _, _, h, _⟩
  · rfl
  · exact h
theorem IsPres.grown {w w' : World} {a : Option Addr} {len cap : Nat} {ts : List Pre2} (h : IsPres w a len cap ts) (hg : w.grownBy w' none) : IsPres w' a len cap ts := by
  rcases h with h | ⟨x, rfl, h1, h2, h3, h4⟩
  · exact .inl h
  · refine .inr ⟨x, rfl, h1, h2, h3, fun i t hi => ?_⟩
    obtain ⟨c0, c1, w0, w1⟩ := h4 i t hi
    exact ⟨hg.cell c0 (by simp), hg.cell c1 (by simp), w0, w1⟩
end Go.Proofs.Ytamnlifdfhmbnaa
/- The contracts of the functions that take the escapes away again. -/
namespace Go.Proofs.Ytamnlifdfhmbnaa
open Go.RowKit
theorem unesc_quote {c : UInt8} {r : List UInt8} (h : ((c.toNat : Int) == 34) = true) : unesc (c :: r) = none := by rw [unesc.eq_def]; simp only [h, if_true]
theorem unesc_line {c : UInt8} {r : List UInt8} (h : ((c.toNat : Int) == 10) = true) : unesc (c :: r) = none := by rw [unesc.eq_def]; simp only [h, if_true, ite_self]
theorem unesc_plain {c : UInt8} {r : List UInt8} (h1 : ((c.toNat : Int) == 34) = false) (h2 : ((c.toNat : Int) == 10) = false) (h3 : ((c.toNat : Int) == 92) = false) : unesc (c :: r) = (unesc r).map (c :: ·) := by
  rw [unesc.eq_def]; simp only [h1, h2, h3]; simp
theorem unesc_end {c : UInt8} (h3 : ((c.toNat : Int) == 92) = true) : unesc [c] = none := by
  rw [(u8_int c 92).1 h3]; rfl
theorem unesc_two {c d : UInt8} {r : List UInt8} (h3 : ((c.toNat : Int) == 92) = true) : unesc (c :: d :: r) =
    if ((d.toNat : Int) == 34) = true then (unesc r).map (d :: ·) else if ((d.toNat : Int) == 92) = true then (unesc r).map (d :: ·) else
      if ((d.toNat : Int) == 110) = true then (unesc r).map (10 :: ·) else none := by
  rw [(u8_int c 92).1 h3, unesc]; rfl
theorem esc_append (a b : List UInt8) : esc (a ++ b) = esc a ++ esc b := by simp [esc]
theorem esc_cut (l : List UInt8) (k : Nat) : esc (l.take k) ++ esc (l.drop k) = esc l := by rw [← esc_append, List.take_append_drop]
theorem unesc_esc : ∀ l : List UInt8, unesc (esc l) = some l
  | [] => rfl
  | c :: r => by
    have ih := unesc_esc r
    have e : esc (c :: r) = escB c ++ esc r := by simp [esc]
    rw [e]
    rcases test3 c with ⟨h1, he⟩ | ⟨h1, h2, he⟩ | ⟨h1, h2, h3, he⟩ | ⟨h1, h2, h3, he⟩
    · rw [he, (u8_int c 34).1 h1]
      show unesc (92 :: 34 :: esc r) = _
      rw [unesc_two (by rfl), ih]; rfl
    · rw [he, (u8_int c 92).1 h2]
      show unesc (92 :: 92 :: esc r) = _
      rw [unesc_two (by rfl), ih]; rfl
    · rw [he, (u8_int c 10).1 h3]
      show unesc (92 :: 110 :: esc r) = _
      rw [unesc_two (by rfl), ih]; rfl
    · rw [he]
      show unesc (c :: esc r) = _
      rw [unesc_plain h1 h3 h2, ih]; rfl
theorem esc_unesc : ∀ (u x : List UInt8), unesc u = some x → esc x = u
  | [], x, h => by
    simp only [unesc, Option.some.injEq] at h; subst h; rfl
  | [c], x, h => by
    cases h1 : ((c.toNat : Int) == 34)
    rotate_left
    · rw [unesc_quote h1] at h; simp at h
    cases h2 : ((c.toNat : Int) == 10)
    rotate_left
    · rw [unesc_line h2] at h; simp at h
    cases h3 : ((c.toNat : Int) == 92)
    rotate_left
    · rw [unesc_end h3] at h; simp at h
    rw [unesc_plain h1 h2 h3] at h
    simp only [unesc, Option.map_some, Option.some.injEq] at h
    subst h
    simp [esc, escB_b, h1, h2, h3]
  | c :: d :: r, x, h => by
    have i1 := esc_unesc (d :: r); have i2 := esc_unesc r
    cases h1 : ((c.toNat : Int) == 34)
    rotate_left
    · rw [unesc_quote h1] at h; simp at h
    cases h2 : ((c.toNat : Int) == 10)
    rotate_left
    · rw [unesc_line h2] at h; simp at h
    cases h3 : ((c.toNat : Int) == 92)
    · rw [unesc_plain h1 h2 h3, Option.map_eq_some_iff] at h
      obtain ⟨a, ha, rfl⟩ := h
      have := i1 a ha
      have e : esc (c :: a) = escB c ++ esc a := by simp [esc]
      rw [e, this, escB_b]; simp [h1, h2, h3]
    · have hc := (u8_int c 92).1 h3
      subst hc
      rw [unesc_two h3] at h
      have e : ∀ q a, esc (q :: a) = escB q ++ esc a := fun q a => by simp [esc]
      split at h
      · rename_i g
        rw [Option.map_eq_some_iff] at h
        obtain ⟨a, ha, rfl⟩ := h
        rw [e, i2 a ha, (u8_int d 34).1 g]; rfl
      split at h
      · rename_i g
        rw [Option.map_eq_some_iff] at h
        obtain ⟨a, ha, rfl⟩ := h
        rw [e, i2 a ha, (u8_int d 92).1 g]; rfl
      split at h
      · rename_i g
        rw [Option.map_eq_some_iff] at h
        obtain ⟨a, ha, rfl⟩ := h
        rw [e, i2 a ha, (u8_int d 110).1 g]; rfl
      · simp at h
end Go.Proofs.Ytamnlifdfhmbnaa
