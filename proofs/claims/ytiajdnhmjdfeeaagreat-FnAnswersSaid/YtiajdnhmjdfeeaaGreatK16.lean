/- The contracts of the exact laws' own helpers on pairs.; The contract of the exact laws' own copy of a slice of pairs, and their comparison of two.; A slice of rows that came in: what its cells hold. -/
import Derived.Test.YtiajdnhmjdfeeaaGreatK04
import Derived.Test.YtiajdnhmjdfeeaaGreatK02
import Derived.Deep.RegionHeld3
import Derived.Test.YtiajdnhmjdfeeaaGreatK03
namespace Go.Proofs.YtiajdnhmjdfeeaaGreat
open Go.RowKit Go.WideShapes
def szP (s p : Nat) (left : Int) : Int := if left - s < 0 then -1 else if left - s - p < 0 then -1 else left - s - p
/-- What a size that is not below 0 says of the pairs. -/
def SmallP (len : Nat) (ts : List Pre2) : Prop := len ≤ 1048576 ∧ ∀ t ∈ ts, t.1.size + t.2.size ≤ 1048576
def SzPostP (left : Int) (len : Nat) (ts : List Pre2) (w : World) (e : Ending) (w' : World) : Prop :=
  ∃ n : Int, e = .returned (.int .i64 n) ∧ (n = -1 ∨ (0 ≤ n ∧ n + len ≤ left ∧ SmallP len ts)) ∧ Below w.heap.size w w'
end Go.Proofs.YtiajdnhmjdfeeaaGreat
namespace Go.Proofs.YtiajdnhmjdfeeaaGreat
open Go.RowKit Go.WideShapes
def flatP (ts : List Pre2) : List Value := ts.flatMap fun t => [.string t.1, .string t.2]
theorem flatP_snoc (ts : List Pre2) (t : Pre2) : flatP (ts ++ [t]) = flatP ts ++ [.string t.1, .string t.2] := by simp [flatP]
theorem flatP_len (ts : List Pre2) : (flatP ts).length = ts.length * 2 := by
  induction ts with
  | nil => rfl
  | cons t r ih => simp only [flatP, List.flatMap_cons, List.length_append, List.length_cons, List.length_nil] at *; omega
theorem flatP_at (ts : List Pre2) : ∀ (i : Nat) (t : Pre2), ts[i]? = some t → (flatP ts)[i * 2]? = some (.string t.1) ∧ (flatP ts)[i * 2 + 1]? = some (.string t.2) := by
  induction ts with
  | nil => intro i t h; simp at h
  | cons u r ih =>
    intro i t h
    have e : flatP (u :: r) = .string u.1 :: .string u.2 :: flatP r := by simp [flatP]
    rw [e]
    cases i with
    | zero => simp at h; subst h; exact ⟨rfl, rfl⟩
    | succ n =>
      have := ih n t (by simpa using h)
      rw [show (n + 1) * 2 = n * 2 + 2 from by omega]
      exact this
theorem infoPair : (Tryz.prog.info? 55).map (fun i => (i.zero, i.size, i.bytes)) = some (some (.agg #[.string ⟨#[]⟩, .string ⟨#[]⟩]), 2, 32) := by kernel_rfl
/-- The call owns a slice of these pairs. -/
def OwnP (B : Nat) (w : World) (v : Value) (ts : List Pre2) : Prop := w.ownsRow B 55 2 v ts.length (flatP ts)
def CopyPostP (ts : List Pre2) (w : World) (e : Ending) (w' : World) : Prop := ∃ v, e = .returned v ∧ OwnP w.heap.size w' v ts ∧ Below w.heap.size w w'
/-- What the call owns can be read. -/
theorem OwnP.is {B : Nat} {w : World} {v : Value} {ts : List Pre2} (h : OwnP B w v ts) (hm : ∀ t ∈ ts, t.1.size ≤ maxLen ∧ t.2.size ≤ maxLen) : ∃ a cap, v = .slice a ts.length cap ∧ IsPres w a ts.length cap ts := by
  have h0 := h
  obtain ⟨_, hc⟩ := h
  rcases hc with ⟨rfl, hl⟩ | ⟨g, cap, cur, rfl, _, _, h1, h2, _⟩
  · exact ⟨none, 0, by rw [hl], .inl ⟨rfl, hl, rfl, List.length_eq_zero_iff.1 hl⟩⟩
  · refine ⟨_, cap, rfl, .inr ⟨_, rfl, h1, h2, rfl, fun i t hi => ?_⟩⟩
    obtain ⟨f0, f1⟩ := flatP_at ts i t hi
    have hl : i < ts.length := (List.getElem?_eq_some_iff.1 hi).1
    obtain ⟨m0, m1⟩ := hm t (List.mem_of_getElem? hi)
    have k0 := h0.cellAt (i * 2) (by omega)
    have k1 := h0.cellAt (i * 2 + 1) (by omega)
    rw [Nat.mul_comm i 2] at k0 k1
    rw [Nat.mul_comm i 2] at f0 f1
    refine ⟨?_, ?_, m0, m1⟩
    · rw [add_plain, Nat.zero_add]; exact k0.trans f0
    · rw [add_plain, Nat.zero_add]; exact k1.trans f1
theorem IsPres.small {w : World} {a : Option Addr} {len cap : Nat} {ts : List Pre2} (h : IsPres w a len cap ts) : ∀ t ∈ ts, t.1.size ≤ maxLen ∧ t.2.size ≤ maxLen := by
  intro t ht
  rcases h with ⟨_, _, _, rfl⟩ | ⟨x, rfl, h1, h2, h3, h4⟩
  · simp at ht
  · obtain ⟨i, hi⟩ := List.mem_iff_getElem?.1 ht
    obtain ⟨_, _, w0, w1⟩ := h4 i t hi
    exact ⟨w0, w1⟩
theorem IsPres.next {w w' : World} {a : Option Addr} {len cap : Nat} {ts : List Pre2} (h : IsPres w a len cap ts) (hb : Below w.heap.size w w') : IsPres w' a len cap ts := h.grown (grown_of_below hb)
end Go.Proofs.YtiajdnhmjdfeeaaGreat
namespace Go.Proofs.YtiajdnhmjdfeeaaGreat
open Go.ChangeShapes Go.WideShapes Go.ChangeAt Go.RowKit
abbrev RowV := List Pre2
def RowAt (w : World) (x : Addr) (i : Nat) (r : RowV) : Prop := ∃ a n c, w.cell? (x.add i) = some (.slice a n c) ∧ IsPres w a n c r
/-- The slice is nil, or its cells hold these rows. -/
def IsRows (w : World) (a : Option Addr) (len cap : Nat) (rs : List RowV) : Prop :=
  (a = none ∧ len = 0 ∧ cap = 0 ∧ rs = []) ∨
  ∃ x, a = some x ∧ len ≤ cap ∧ cap ≤ maxLen ∧ rs.length = len ∧ ∀ (i : Nat) (r : RowV), rs[i]? = some r → RowAt w x i r
theorem IsRows.len {w : World} {a : Option Addr} {len cap : Nat} {rs : List RowV} (h : IsRows w a len cap rs) : rs.length = len := by
  rcases h with ⟨_, rfl, _, rfl⟩ | ⟨x, _, _, _, h, _⟩
  · rfl
  · exact h
theorem IsRows.maxl {w : World} {a : Option Addr} {len cap : Nat} {rs : List RowV} (h : IsRows w a len cap rs) : len ≤ 9223372036854775807 := by
  rcases h with ⟨_, rfl, _, _⟩ | ⟨_, _, h1, h2, _⟩
  · omega
  · unfold maxLen at h2; omega
theorem IsPres.maxl {w : World} {a : Option Addr} {len cap : Nat} {rs : RowV} (h : IsPres w a len cap rs) : len ≤ 9223372036854775807 := by
  rcases h with ⟨_, rfl, _, _⟩ | ⟨_, _, h1, h2, _⟩
  · omega
  · unfold maxLen at h2; omega
theorem IsRows.next {w w' : World} {a : Option Addr} {len cap : Nat} {rs : List RowV} (h : IsRows w a len cap rs) (hb : Below w.heap.size w w') : IsRows w' a len cap rs := by
  have hg := grown_of_below hb
  rcases h with h | ⟨x, rfl, h1, h2, h3, h4⟩
  · exact .inl h
  · refine .inr ⟨x, rfl, h1, h2, h3, fun i r hi => ?_⟩
    obtain ⟨a', n, c, c0, hp⟩ := h4 i r hi
    exact ⟨a', n, c, hg.cell c0 (by simp), hp.next hb⟩
/-- The place of a slice that has an element, and its cells. -/
theorem IsRows.cells {w : World} {a : Option Addr} {len cap : Nat} {rs : List RowV} (h : IsRows w a len cap rs) (h0 : 0 < len) : ∃ b off, a = some ⟨b, off, none⟩ ∧ b < w.heap.size ∧ len ≤ cap ∧ cap ≤ maxLen ∧ rs.length = len ∧
    ∀ (i : Nat) (r : RowV), rs[i]? = some r → ∃ a n c, w.cell? ⟨b, off + i, none⟩ = some (.slice a n c) ∧ IsPres w a n c r := by
  rcases h with ⟨_, rfl, _⟩ | ⟨x, rfl, h1, h2, h3, h4⟩
  · omega
  · obtain ⟨b, off, spot⟩ := x
    have ht : rs[0]? = some rs[0] := List.getElem?_eq_getElem (by omega)
    obtain ⟨_, _, _, hc, _⟩ := h4 0 _ ht
    obtain rfl : spot = none := by simpa [Addr.add] using World.cell?_spot hc
    refine ⟨b, off, rfl, by have := World.block_lt_of_cell? _ _ hc; simpa [Addr.add] using this, h1, h2, h3, fun i r hi => ?_⟩
    obtain ⟨a', n, c, c0, hp⟩ := h4 i r hi
    rw [add_plain] at c0
    exact ⟨a', n, c, c0, hp⟩
theorem IsRows.small {w : World} {a : Option Addr} {len cap : Nat} {rs : List RowV} (h : IsRows w a len cap rs) : ∀ r ∈ rs, ∀ t ∈ r, t.1.size ≤ maxLen ∧ t.2.size ≤ maxLen := by
  intro r hr
  rcases h with ⟨_, _, _, rfl⟩ | ⟨x, rfl, h1, h2, h3, h4⟩
  · simp at hr
  · obtain ⟨i, hi⟩ := List.mem_iff_getElem?.1 hr
    obtain ⟨_, _, _, _, hp⟩ := h4 i r hi
    exact hp.small
def totR (rs : List RowV) : Nat := (rs.map List.length).sum
theorem totR_mem : ∀ {rs : List RowV} {r : RowV}, r ∈ rs → r.length ≤ totR rs
  | s :: rs, r, h => by
    have e : totR (s :: rs) = s.length + totR rs := by simp [totR]
    rcases List.mem_cons.1 h with rfl | h
    · omega
    · have := totR_mem h; omega
end Go.Proofs.YtiajdnhmjdfeeaaGreat
