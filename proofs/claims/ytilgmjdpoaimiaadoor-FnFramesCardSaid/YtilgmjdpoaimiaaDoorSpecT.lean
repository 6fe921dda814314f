/- The contracts of the model's functions on texts. -/
import Derived.Test.YtilgmjdpoaimiaaDoorKindL
import Derived.Test.YtilgmjdpoaimiaaDoorSpecK
namespace Go.Proofs.YtilgmjdpoaimiaaDoor
open Go.RowKit
theorem text_cases (c : UInt8) : (textB c = true ∧ ((c.toNat : Int) != 10) = false) ∨ (textB c = true ∧ ((c.toNat : Int) != 10) = true ∧ 32 ≤ (c.toNat : Int) ∧ (c.toNat : Int) ≤ 126) ∨
    (textB c = false ∧ ((c.toNat : Int) != 10) = true ∧ (c.toNat : Int) < 32) ∨ (textB c = false ∧ ((c.toNat : Int) != 10) = true ∧ 126 < (c.toNat : Int)) := by
  unfold textB
  simp only [Bool.or_eq_true, Bool.and_eq_true, decide_eq_true_eq, Bool.or_eq_false_iff, Bool.and_eq_false_iff, decide_eq_false_iff_not, bne_iff_ne, bne_eq_false_iff_eq, beq_iff_eq, beq_eq_false_iff_ne]
  omega
theorem textOk_of {r t : List UInt8} (h : unesc r = some t) : textOk r = (decide (t.length ≤ 12) && t.all textB) := by
  unfold textOk made
  rw [h]
  cases t with
  | nil => rfl
  | cons c q => simp
end Go.Proofs.YtilgmjdpoaimiaaDoor
