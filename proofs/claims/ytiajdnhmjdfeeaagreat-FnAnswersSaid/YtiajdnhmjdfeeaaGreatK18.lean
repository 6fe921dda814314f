/- The exact laws' own copy of a slice of rows, what it owns, and texts copied.; The exact laws' own comparison of two slices of rows; texts copied.; A slice of texts that came in: what its cells hold. -/
import Derived.Test.YtiajdnhmjdfeeaaGreatK17
import Derived.Deep.RegionHeld3
import Derived.Test.YtiajdnhmjdfeeaaGreatK16
import Derived.Test.YtiajdnhmjdfeeaaGreatK11
namespace Go.Proofs.YtiajdnhmjdfeeaaGreat
open Go.RowKit Go.WideShapes
theorem infoRow : (Tryz.prog.info? 50).map (fun i => (i.zero, i.size, i.bytes)) = some (some (.slice none 0 0), 1, 24) := by kernel_rfl
theorem ownP_kept {B : Nat} {w w' : World} {v : Value} {ts : RowV} (h : OwnP B w v ts) (hb : Below w.heap.size w w') : OwnP B w' v ts := World.ownsRow.kept h (grown_of_below hb) (by
  rcases hv : v.ownBlock with _ | i
  · exact .inl rfl
  · exact .inr (by simp))
theorem ownP_base {B C : Nat} {w : World} {v : Value} {ts : RowV} (h : OwnP B w v ts) (hc : C ≤ B) : OwnP C w v ts := by
  obtain ⟨h1, h2⟩ := h
  refine ⟨h1, ?_⟩
  rcases h2 with h2 | ⟨g, cap, cur, e, hB, r⟩
  · exact .inl h2
  · exact .inr ⟨g, cap, cur, e, Nat.le_trans hc hB, r⟩
theorem ownP_set {B : Nat} {w : World} {v : Value} {ts : RowV} (h : OwnP B w v ts) {g : Nat} (hg : g < B) (j : Nat) (u : Value) : OwnP B (w.setCell ⟨g, j, none⟩ u) v ts := by
  refine World.ownsRow.kept h (row := some g) ⟨rfl, rfl, rfl, by simp [World.setCell], fun k _ hne => Below.heap_setCell _ _ _ _ (fun e => hne (by rw [e]))⟩ ?_
  rcases hv : v.ownBlock with _ | q
  · exact .inl rfl
  · exact .inr (fun e => by cases e; have := (World.ownsRow.lt h g hv).1; omega)
/-- Rows, each in a block of its own, from B on. -/
def InnR (B : Nat) (w : World) (rs : List RowV) (us : List Value) : Prop :=
  us.length = rs.length ∧ (∀ (i : Nat) (u : Value) (r : RowV), us[i]? = some u → rs[i]? = some r → OwnP B w u r) ∧ us.Pairwise (fun u v => ∀ j, u.ownBlock = some j → v.ownBlock ≠ some j)
theorem InnR.nil (B : Nat) (w : World) : InnR B w [] [] := ⟨rfl, fun i u t h => by simp at h, .nil⟩
theorem InnR.next {B : Nat} {w w' : World} {rs : List RowV} {us : List Value} (h : InnR B w rs us) (hb : Below w.heap.size w w') : InnR B w' rs us := ⟨h.1, fun i u t hu ht => ownP_kept (h.2.1 i u t hu ht) hb, h.2.2⟩
theorem InnR.set {B : Nat} {w : World} {rs : List RowV} {us : List Value} (h : InnR B w rs us) {g : Nat} (hg : g < B) (j : Nat) (q : Value) : InnR B (w.setCell ⟨g, j, none⟩ q) rs us := ⟨h.1, fun i u t hu ht => ownP_set (h.2.1 i u t hu ht) hg j q, h.2.2⟩
theorem InnR.snoc {B : Nat} {w : World} {C : Nat} {rs : List RowV} {us : List Value} {r : RowV} {u : Value} (h : InnR B w rs us) (hl : ∀ v ∈ us, ∀ j, v.ownBlock = some j → j < C) (hBC : B ≤ C) (ho : OwnP C w u r) : InnR B w (rs ++ [r]) (us ++ [u]) := by
  obtain ⟨h1, h2, h3⟩ := h
  refine ⟨by simp [h1], fun i v s hv hs => ?_, List.pairwise_append.2 ⟨h3, List.pairwise_singleton _ _, fun v hv v' hv' j hj e => ?_⟩⟩
  · rcases Nat.lt_or_ge i us.length with g | g
    · rw [List.getElem?_append_left g] at hv
      rw [List.getElem?_append_left (by omega)] at hs
      exact h2 i v s hv hs
    · have hi : i = us.length := by
        have := (List.getElem?_eq_some_iff.1 hv).1
        simp at this; omega
      subst hi
      rw [List.getElem?_append_right (Nat.le_refl _)] at hv
      rw [h1, List.getElem?_append_right (Nat.le_refl _)] at hs
      simp at hv hs
      subst hv hs
      exact ownP_base ho hBC
  · obtain rfl : v' = u := by simpa using hv'
    have := hl v hv j hj
    have := (World.ownsRow.lt ho j e).1
    omega
theorem InnR.lt {B : Nat} {w : World} {rs : List RowV} {us : List Value} (h : InnR B w rs us) : ∀ v ∈ us, ∀ j, v.ownBlock = some j → B ≤ j ∧ j < w.heap.size := by
  intro v hv j hj
  obtain ⟨i, hi⟩ := List.mem_iff_getElem?.1 hv
  have hil := (List.getElem?_eq_some_iff.1 hi).1
  have ht : rs[i]? = some (rs[i]'(by have := h.1; omega)) := List.getElem?_eq_getElem _
  exact World.ownsRow.lt (h.2.1 i v _ hi ht) j hj
/-- The call owns a slice of rows and each of these, no two in one block. -/
def OwnRs (B : Nat) (w : World) (v : Value) (rs : List RowV) : Prop := ∃ us, w.ownsRow B 50 1 v rs.length us ∧ InnR B w rs us ∧ ∀ u ∈ us, ∀ j, u.ownBlock = some j → v.ownBlock ≠ some j
theorem OwnRs.is {B : Nat} {w : World} {v : Value} {rs : List RowV} (h : OwnRs B w v rs) (hm : ∀ r ∈ rs, ∀ t ∈ r, t.1.size ≤ maxLen ∧ t.2.size ≤ maxLen) : ∃ a cap, v = .slice a rs.length cap ∧ IsRows w a rs.length cap rs := by
  obtain ⟨us, ho, hi, _⟩ := h
  have h0 := ho
  obtain ⟨_, hc⟩ := ho
  rcases hc with ⟨rfl, hl⟩ | ⟨g, cap, cur, rfl, _, _, h1, h2, _⟩
  · exact ⟨none, 0, by rw [hl], .inl ⟨rfl, hl, rfl, List.length_eq_zero_iff.1 hl⟩⟩
  · refine ⟨_, cap, rfl, .inr ⟨_, rfl, h1, h2, rfl, fun i r hr => ?_⟩⟩
    have hil : i < rs.length := (List.getElem?_eq_some_iff.1 hr).1
    have hu : us[i]? = some (us[i]'(by have := hi.1; omega)) := List.getElem?_eq_getElem _
    have oi := hi.2.1 i _ r hu hr
    obtain ⟨a', c', ev, ii⟩ := oi.is (hm r (List.mem_of_getElem? hr))
    refine ⟨a', r.length, c', ?_, ii⟩
    rw [add_plain, Nat.zero_add]
    exact (h0.cellAt i (by omega)).trans (by rw [hu, ev])
theorem OwnRs.kept {B : Nat} {w w' : World} {v : Value} {rs : List RowV} (h : OwnRs B w v rs) (hb : Below w.heap.size w w') : OwnRs B w' v rs := by
  obtain ⟨us, ho, hi, hn⟩ := h
  exact ⟨us, ho.kept (grown_of_below hb) (by
    rcases hv : v.ownBlock with _ | i
    · exact .inl rfl
    · exact .inr (by simp)), hi.next hb, hn⟩
end Go.Proofs.YtiajdnhmjdfeeaaGreat
namespace Go.Proofs.YtiajdnhmjdfeeaaGreat
open Go.RowKit Go.WideShapes
end Go.Proofs.YtiajdnhmjdfeeaaGreat
namespace Go.Proofs.YtiajdnhmjdfeeaaGreat
open Go.ChangeShapes Go.WideShapes Go.ChangeAt Go.RowKit
def StrAt (w : World) (x : Addr) (i : Nat) (t : ByteArray) : Prop := w.cell? (x.add i) = some (.string t) ∧ t.size ≤ maxLen
end Go.Proofs.YtiajdnhmjdfeeaaGreat
