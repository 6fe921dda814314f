/- A slice of texts: what its cells hold; one of the call's own; the exact laws' comparison, marks and second look. -/
import Derived.Test.YtobmcngmcmhebaaMarkO
import Derived.Test.YtobmcngmcmhebaaTxtM
import Derived.Deep.RegionHeld3
namespace Go.Proofs.Ytobmcngmcmhebaa
open Go.RowKit Go.WideShapes
/-- The slice is nil, or its cells hold the texts ts. -/
def IsStrs (w : World) (a : Option Addr) (len cap : Nat) (ts : List ByteArray) : Prop :=
  (a = none ∧ len = 0 ∧ cap = 0 ∧ ts = []) ∨
  ∃ x, a = some x ∧ len ≤ cap ∧ cap ≤ maxLen ∧ ts.length = len ∧ ∀ (i : Nat) (t : ByteArray), ts[i]? = some t → w.cell? (x.add i) = some (.string t)
theorem IsStrs.cells {w : World} {a : Option Addr} {len cap : Nat} {ts : List ByteArray} (h : IsStrs w a len cap ts) (h0 : 0 < len) : ∃ b off, a = some ⟨b, off, none⟩ ∧ b < w.heap.size ∧ len ≤ cap ∧ cap ≤ maxLen ∧ ts.length = len ∧
    ∀ (i : Nat) (t : ByteArray), ts[i]? = some t → w.cell? ⟨b, off + i, none⟩ = some (.string t) := by
  rcases h with ⟨_, rfl, _⟩ | ⟨x, rfl, h1, h2, h3, h4⟩
  · omega
  · obtain ⟨b, off, spot⟩ := x
    have ht : ts[0]? = some ts[0] := List.getElem?_eq_getElem (by omega)
    have hc := h4 0 _ ht
    obtain rfl : spot = none := by simpa [Addr.add] using World.cell?_spot hc
    refine ⟨b, off, rfl, by have := World.block_lt_of_cell? _ _ hc; simpa [Addr.add] using this, h1, h2, h3, fun i t hi => ?_⟩
    have c0 := h4 i t hi
    rw [add_plain] at c0
    exact c0
theorem IsStrs.len {w : World} {a : Option Addr} {len cap : Nat} {ts : List ByteArray} (h : IsStrs w a len cap ts) : ts.length = len := by
  rcases h with ⟨_, rfl, _, rfl⟩ | ⟨_, _, _, _, h, _⟩
  · rfl
  · exact h
theorem IsStrs.maxl {w : World} {a : Option Addr} {len cap : Nat} {ts : List ByteArray} (h : IsStrs w a len cap ts) : len ≤ 9223372036854775807 := by
  rcases h with ⟨_, rfl, _, _⟩ | ⟨_, _, h1, h2, _⟩
  · omega
  · unfold maxLen at h2; omega
theorem IsStrs.next {w w' : World} {a : Option Addr} {len cap : Nat} {ts : List ByteArray} (h : IsStrs w a len cap ts) (hb : Below w.heap.size w w') : IsStrs w' a len cap ts := by
  rcases h with h | ⟨x, rfl, h2, h3, h4, h5⟩
  · exact .inl h
  · exact .inr ⟨x, rfl, h2, h3, h4, fun i t hi => by
      have c0 := h5 i t hi
      rw [hb.cell (World.block_lt_of_cell? _ _ c0)]; exact c0⟩
abbrev strV (t : ByteArray) : Value := .string t
/-- The call owns a slice of these texts. -/
def OwnS (B : Nat) (w : World) (v : Value) (ts : List ByteArray) : Prop := w.ownsRow B 9 1 v ts.length (ts.map strV)
theorem infoStr : (Try.prog.info? 9).map (fun i => (i.zero, i.size, i.bytes)) = some (some (.string ⟨#[]⟩), 1, 16) := by kernel_rfl
theorem OwnS.is {B : Nat} {w : World} {v : Value} {ts : List ByteArray} (h : OwnS B w v ts) : ∃ a cap, v = .slice a ts.length cap ∧ IsStrs w a ts.length cap ts := by
  have h0 := h
  obtain ⟨_, hc⟩ := h
  rcases hc with ⟨rfl, hl⟩ | ⟨g, cap, cur, rfl, _, hb, h1, h2, _⟩
  · exact ⟨none, 0, by rw [hl], .inl ⟨rfl, hl, rfl, List.length_eq_zero_iff.1 hl⟩⟩
  · refine ⟨_, cap, rfl, .inr ⟨⟨g, 0, none⟩, rfl, h1, h2, rfl, fun i t hi => ?_⟩⟩
    have hl : i < ts.length := (List.getElem?_eq_some_iff.1 hi).1
    have k0 := h0.cellAt i (by omega)
    have e : (⟨g, 0, none⟩ : Addr).add i = ⟨g, i, none⟩ := by rw [add_plain, Nat.zero_add]
    rw [e, k0, List.getElem?_map, hi]; rfl
theorem OwnS.kept {B : Nat} {w w' : World} {v : Value} {ts : List ByteArray} (h : OwnS B w v ts) (hb : Below w.heap.size w w') : OwnS B w' v ts := World.ownsRow.kept h (grown_of_below hb) (by
  rcases hv : v.ownBlock with _ | i
  · exact .inl rfl
  · exact .inr (by simp))
theorem ownS_snoc {B : Nat} {w : World} {v : Value} {ts : List ByteArray} {t : ByteArray} (h : w.ownsRow B 9 1 v (ts.length + 1) (ts.map strV ++ [.string t])) : OwnS B w v (ts ++ [t]) := by
  unfold OwnS; simpa using h
theorem ownS_base {B C : Nat} {w : World} {v : Value} {ts : List ByteArray} (h : OwnS B w v ts) (hc : C ≤ B) : OwnS C w v ts := by
  obtain ⟨h1, h2⟩ := h
  refine ⟨h1, ?_⟩
  rcases h2 with h2 | ⟨g, cap, cur, e, hB, r⟩
  · exact .inl h2
  · exact .inr ⟨g, cap, cur, e, Nat.le_trans hc hB, r⟩
def marksS (k n : Nat) : List ByteArray := (List.range n).map fun i => mark (k + i)
theorem marksS_succ (k n : Nat) : marksS k (n + 1) = marksS k n ++ [mark (k + n)] := by unfold marksS; rw [List.range_succ, List.map_append]; rfl
theorem marksS_len (k n : Nat) : (marksS k n).length = n := by simp [marksS]
theorem marksS_at {k n i : Nat} (h : i < n) : (marksS k n)[i]? = some (mark (k + i)) := by unfold marksS; rw [List.getElem?_map, List.getElem?_range h]; rfl
theorem set1 {xs l : List Value} {k : Nat} (a : Value) (h : xs.take k = l) (hl : k < xs.length) : (xs.set k a).take (k + 1) = l ++ [a] := by
  subst h
  rw [List.take_succ_eq_append_getElem (by simpa using hl), List.take_set_of_le (Nat.le_refl _)]
  simp
theorem own_keep1 {B e g n c : Nat} {w w' : World} {xs : List Value} (h : w.ownsRow B e 1 (.slice (some ⟨g, 0, none⟩) n c) n xs) (hb : Below w.heap.size w w') : w'.ownsRow B e 1 (.slice (some ⟨g, 0, none⟩) n c) n xs := h.kept (grown_of_below hb) (.inr (by simp [Value.ownBlock]))
end Go.Proofs.Ytobmcngmcmhebaa
