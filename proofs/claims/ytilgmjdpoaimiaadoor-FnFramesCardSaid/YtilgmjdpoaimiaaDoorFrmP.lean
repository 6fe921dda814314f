/- What FnFrames asks, plainly. -/
import Derived.Test.YtilgmjdpoaimiaaDoorFrmT
namespace Go.Proofs.YtilgmjdpoaimiaaDoor
open Go.RowKit
theorem frames_all (s : List UInt8) : (framesL (takeL s)).length ≤ s.length ∧ s.take (framesL (takeL s)).length = framesL (takeL s) ∧ (∀ d ∈ takeL s, d.length ≤ 100000) := by
  obtain ⟨h1, r, h2, _⟩ := takeL_is s.length s (Nat.le_refl _)
  have h3 := congrArg List.length h2
  rw [List.length_append] at h3
  refine ⟨by omega, ?_, h1⟩
  conv => lhs; arg 2; rw [h2]
  exact List.take_left
theorem one_more {l : List (List UInt8)} {t : List UInt8} (h : ∀ d ∈ l, d.length ≤ 100000) (ht : t.length ≤ 100000) : takeL (framesL l ++ frameL t) = l ++ [t] ∧ (framesL (l ++ [t])).length = (framesL l).length + (frameL t).length := by
  constructor
  · rw [takeL_frames l _ h]
    have := takeL_frame t [] ht
    rw [List.append_nil] at this
    rw [this, takeL_none (s := []) (firstL_short (by decide))]
  · rw [framesL_snoc, List.length_append]
theorem few_first {l : List (List UInt8)} (h : ∀ d ∈ l, d.length ≤ 100000) (k : Nat) : (takeL ((framesL l).take k)).length ≤ l.length ∧ l.take (takeL ((framesL l).take k)).length = takeL ((framesL l).take k) := by
  have h1 := takeL_cut _ ((framesL l).take k) ((framesL l).drop k) (Nat.le_refl _)
  rw [List.take_append_drop] at h1
  have h2 := takeL_frames l [] h
  rw [List.append_nil, takeL_none (s := []) (firstL_short (by decide)), List.append_nil] at h2
  rw [h2] at h1
  obtain ⟨r, hr⟩ := h1
  have hl := congrArg List.length hr
  rw [List.length_append] at hl
  refine ⟨by omega, ?_⟩
  conv => lhs; arg 2; rw [← hr]
  exact List.take_left
theorem framesL_take {l : List (List UInt8)} {k : Nat} {d : List UInt8} (h : l[k]? = some d) : framesL (l.take (k + 1)) = framesL (l.take k) ++ frameL d := by
  have : l.take (k + 1) = l.take k ++ [d] := by
    rw [List.take_add_one, h]; rfl
  rw [this, framesL_snoc]
theorem framesL_take_le (l : List (List UInt8)) (k : Nat) : (framesL (l.take k)).length ≤ (framesL l).length := by
  unfold framesL
  conv => rhs; rw [← List.take_append_drop k l, List.flatMap_append, List.length_append]
  exact Nat.le_add_right _ _
end Go.Proofs.YtilgmjdpoaimiaaDoor
