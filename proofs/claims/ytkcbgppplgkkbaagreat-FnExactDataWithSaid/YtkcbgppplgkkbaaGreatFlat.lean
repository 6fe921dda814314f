/- A slice's cells, one by one: its front and its back. -/
import Derived.Test.YtkcbgppplgkkbaaGreatExactS3
import Derived.Test.YtkcbgppplgkkbaaGreatOwn
namespace Go.Proofs.YtkcbgppplgkkbaaGreat
open Go.RowKit Go.WideShapes
theorem flat_append (a b : List Tri3) : flat (a ++ b) = flat a ++ flat b := by simp [flat]
theorem flat_one (a : List Tri3) : ∀ u ∈ flat a, u.oneCell' = true := by
  intro u hu
  unfold flat at hu
  obtain ⟨t, _, hu⟩ := List.mem_flatMap.1 hu
  simp only [List.mem_cons, List.not_mem_nil, or_false] at hu
  rcases hu with rfl | rfl | rfl <;> rfl
theorem flat_split (ts : List Tri3) (k : Nat) : flat ts = flat (ts.take k) ++ flat (ts.drop k) := by rw [← flat_append, List.take_append_drop]
/-- A slice's cells, one by one. -/
theorem IsTris.flatAt {w : World} {b off len cap : Nat} {ts : List Tri3} (h : IsTris w (some ⟨b, off, none⟩) len cap ts) (j : Nat) (u : Value) (hj : (flat ts)[j]? = some u) : w.cell? ⟨b, off + j, none⟩ = some u := by
  have hl := h.len
  have hjl : j < ts.length * 3 := by rw [← flat_len]; exact (List.getElem?_eq_some_iff.1 hj).1
  rcases h with ⟨h, _⟩ | ⟨x, hx, h1, h2, h3, h4⟩
  · cases h
  · cases hx
    obtain ⟨q, r, hr, rfl⟩ : ∃ q r, r < 3 ∧ j = q * 3 + r := ⟨j / 3, j % 3, by omega, by omega⟩
    have hq : q < ts.length := by omega
    have e := List.getElem?_eq_getElem hq
    obtain ⟨c0, c1, c2, _⟩ := h4 q _ e
    rw [add_plain] at c0 c1 c2
    obtain ⟨f0, f1, f2⟩ := flat_at ts q _ e
    have hm : r = 0 ∨ r = 1 ∨ r = 2 := by omega
    rcases hm with rfl | rfl | rfl
    · rw [Nat.add_zero, f0] at hj; rw [← hj, ← c0, Nat.mul_comm 3 q]; rfl
    · rw [f1] at hj; rw [← hj, ← c1, Nat.mul_comm 3 q]
    · rw [f2] at hj; rw [← hj, ← c2, Nat.mul_comm 3 q]
theorem IsTris.front {w : World} {b off len cap : Nat} {ts : List Tri3} (h : IsTris w (some ⟨b, off, none⟩) len cap ts) (k : Nat) : ∀ (j : Nat) (u : Value), (flat (ts.take k))[j]? = some u → w.cell? ((⟨b, off, none⟩ : Addr).add j) = some u := by
  intro j u hj
  rw [add_plain]
  refine h.flatAt j u ?_
  rw [flat_split ts k, List.getElem?_append_left (List.getElem?_eq_some_iff.1 hj).1]
  exact hj
theorem IsTris.back {w : World} {b off len cap : Nat} {ts : List Tri3} (h : IsTris w (some ⟨b, off, none⟩) len cap ts) (k : Nat) (hk : k ≤ ts.length) : ∀ (j : Nat) (u : Value), (flat (ts.drop k))[j]? = some u → w.cell? ((⟨b, off + k * 3, none⟩ : Addr).add j) = some u := by
  intro j u hj
  rw [add_plain, Nat.add_assoc]
  refine h.flatAt (k * 3 + j) u ?_
  have e : (flat (ts.take k)).length = k * 3 := by rw [flat_len, List.length_take, Nat.min_eq_left hk]
  rw [flat_split ts k, List.getElem?_append_right (by omega), e, Nat.add_sub_cancel_left]
  exact hj
theorem tris_news {w : World} {x : Addr} {ts : List Tri3} (h4 : ∀ (i : Nat) (t : Tri3), ts[i]? = some t → TriAt w x i t) (j : Nat) (u : Value) (hj : (flat ts)[j]? = some u) : w.cell? (x.add j) = some u := by
  have hjl : j < ts.length * 3 := by rw [← flat_len]; exact (List.getElem?_eq_some_iff.1 hj).1
  obtain ⟨q, r, hr, rfl⟩ : ∃ q r, r < 3 ∧ j = q * 3 + r := ⟨j / 3, j % 3, by omega, by omega⟩
  have e := List.getElem?_eq_getElem (show q < ts.length by omega)
  obtain ⟨c0, c1, c2, _⟩ := h4 q _ e
  obtain ⟨f0, f1, f2⟩ := flat_at ts q _ e
  have hm : r = 0 ∨ r = 1 ∨ r = 2 := by omega
  rcases hm with rfl | rfl | rfl
  · rw [Nat.add_zero, f0] at hj; rw [← hj, ← c0, Nat.mul_comm 3 q]; rfl
  · rw [f1] at hj; rw [← hj, ← c1, Nat.mul_comm 3 q]
  · rw [f2] at hj; rw [← hj, ← c2, Nat.mul_comm 3 q]
theorem own_some {B : Nat} {w : World} {v : Value} {ts : List Tri3} (h : OwnT B w v ts) (h0 : 0 < ts.length) : ∃ g c, v = .slice (some ⟨g, 0, none⟩) ts.length c := by
  rcases h.2 with ⟨_, e⟩ | ⟨g, c, cur, rfl, _⟩
  · omega
  · exact ⟨g, c, rfl⟩
end Go.Proofs.YtkcbgppplgkkbaaGreat
