/- Rows merged: the specification's way. -/
import Derived.Test.YtiajdnhmjdfeeaaGreatKAS
import Derived.Test.YtiajdnhmjdfeeaaGreatK33
import Derived.Test.YtiajdnhmjdfeeaaGreatK27
import Derived.Deep.RegionHeld3
import Derived.Laws.AppendOwnNone
namespace Go.Proofs.YtiajdnhmjdfeeaaGreat
open Go.RowKit Go.WideShapes
def MergePost (la lb : List Pre2) (w : World) (e : Ending) (w' : World) : Prop :=
  (∃ v h, e = .returned (.tuple #[v, .bool true]) ∧ mergedP la lb = some h ∧ OwnP w.heap.size w' v h ∧ Below w.heap.size w w') ∨
  (e = .returned (.tuple #[.slice none 0 0, .bool false]) ∧ mergedP la lb = none ∧ Below w.heap.size w w')
theorem merged_no {la lb : List Pre2} (h : rowOk la = false ∨ rowOk lb = false) : mergedP la lb = none := by
  unfold mergedP
  rcases h with h | h <;> simp [h]
theorem merged_some {la lb q : List Pre2} (h : rowOk la = true) (k : rowOk lb = true) (hp : putAllP la lb = some q) : mergedP la lb = if rowOk q = true then some q else none := by
  unfold mergedP
  rw [if_pos ⟨h, k⟩, hp]
theorem merged_stop {la lb : List Pre2} (hp : putAllP la lb = none) : mergedP la lb = none := by
  unfold mergedP
  split
  · rw [hp]
  · rfl
theorem ownP_pres {B n c : Nat} {w : World} {a : Option Addr} {q : List Pre2} (h : OwnP B w (.slice a n c) q) (hs : SmP q) : IsPres w a n c q := by
  obtain ⟨a', c', e, i⟩ := OwnP.is h (fun t ht => by have := hs t ht; unfold maxLen; omega)
  cases e
  exact i
theorem row_len {ts : List Pre2} (h : rowOk ts = true) : ts.length ≤ 12 := by
  unfold rowOk at h; simp only [Bool.and_eq_true, decide_eq_true_eq] at h; exact h.1
theorem smP_all {la lb q : List Pre2} (ha : SmP la) (hb : SmP lb) {k : Nat} (h : putAllP la (lb.take k) = some q) : SmP q := fun t ht => by
  rcases putAllP_mem h ht with g | g
  · exact ha t g
  · exact hb t (List.mem_of_mem_take g)
end Go.Proofs.YtiajdnhmjdfeeaaGreat
